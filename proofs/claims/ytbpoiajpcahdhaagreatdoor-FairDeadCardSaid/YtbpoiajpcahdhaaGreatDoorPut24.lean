/- farm.New. farm.do: a message comes, is lost; a worker dies. -/
import Derived.Test.YtbpoiajpcahdhaaGreatDoorPut22
import Derived.Test.YtbpoiajpcahdhaaGreatDoorPut23
namespace Go.Proofs.YtbpoiajpcahdhaaGreatDoor.Wi
open Go.RowKit

def jz : Array Value := #[.slice none 0 0, .int .i64 0, .int .i64 0, .int .i64 0, .bool false, .slice none 0 0, .int .i64 0, .int .i64 0]
def jobCells (n : Nat) : Array Value := madeCells jz (n * 8)
theorem run_make_jobs (n : Nat) (hn : n ≤ 4) (w : World) : (Instr.makeSlice 24 (.int .i64 (n : Int)) (.int .i64 (n : Int))).run Tryz.prog w = .ok (.slice (some ⟨w.heap.size, 0, none⟩) n n) (w.alloc (.cells (jobCells n) 40)) := by
  obtain ⟨i, hi, e⟩ := Option.map_eq_some_iff.1 infoJ
  simp only [Prod.mk.injEq] at e
  obtain ⟨h0, h1, h2⟩ := e
  have h := run_make w 24 40 i _ Tryz.underlying24 hi h0 .i64 .i64 n n (by omega) (by omega) (by rw [h2]; omega) (by omega)
  rw [h1, Int.toNat_natCast] at h
  exact h
theorem run_make_dead (n : Int) (h0 : 1 ≤ n) (h1 : n ≤ 3) (w : World) : (Instr.makeSlice 25 (.int .i64 n) (.int .i64 n)).run Tryz.prog w = .ok (.slice (some ⟨w.heap.size, 0, none⟩) n.toNat n.toNat) (w.alloc (.cells (madeCells #[.bool false] (n.toNat * 1)) 4)) := by
  obtain ⟨i, hi, e⟩ := Option.map_eq_some_iff.1 infoBo
  simp only [Prod.mk.injEq] at e
  obtain ⟨h3, h4, h5⟩ := e
  have h := run_make w 25 4 i _ Tryz.underlying25 hi h3 .i64 .i64 n n (by omega) (by omega) (by rw [h5]; omega) (by omega)
  rw [h4] at h
  exact h

/-- What New hands back where it refuses. -/
def faZ : Value := .agg #[.int .i64 0, .slice none 0 0, .slice none 0 0, .slice none 0 0]
set_option maxHeartbeats 2000000 in
set_option maxRecDepth 100000 in
theorem new_bad (l : List (List UInt8)) (v : Value) (base workers : Int) (w : World) (hv : LS w v l) (hx : wrongN l base workers ≠ 0) :
    Calls Tryz.prog 5 #[v, .int .i64 base, .int .i64 workers] w fun e w' => e = .returned (.tuple #[faZ, .int .i64 (wrongN l base workers)]) ∧ Below w.heap.size w w' := by
  have HC : Hid (∀ W, Below w.heap.size w W → Calls Tryz.prog 11 #[v, .int .i64 base, .int .i64 workers] W fun e w' => e = .returned (.int .i64 (wrongN l base workers)) ∧ Below W.heap.size W w') := fun W hb => wrongN_any l v base workers W (hv.go hb)
  have hx1 : (wrongN l base workers != 0) = true := by simpa using hx
  obtain ⟨ad, cap, rfl, hq⟩ := id hv
  clear hq hv hx
  generalize wrongN l base workers = x at *
  go_enter Tryz.func5, Tryz.ntmps5
  go_wp2_with fail
  refine (HC.out _ (oalloc w _)).mono ?_
  rintro e w1 ⟨rfl, hb1⟩
  have hbx := (hb1.block _ (fblk_lt (fblk_new w #[.int .i64 0, .slice none 0 0, .slice none 0 0, .slice none 0 0] 27))).trans (fblk_new w _ _)
  have HB := Lib.hid (bnext (oalloc w _) hb1)
  have HR3 : Hid (∀ v0 v1 v2 v3, Below w.heap.size w ((((w1.setCell ⟨w.heap.size, 0, none⟩ v0).setCell ⟨w.heap.size, 1, none⟩ v1).setCell ⟨w.heap.size, 2, none⟩ v2).setCell ⟨w.heap.size, 3, none⟩ v3)) := fun v0 v1 v2 v3 => (((HB.out.setCell (p := ⟨w.heap.size, 0, none⟩) (by show w.heap.size ≤ w.heap.size; omega) v0).setCell (p := ⟨w.heap.size, 1, none⟩) (by show w.heap.size ≤ w.heap.size; omega) v1).setCell (p := ⟨w.heap.size, 2, none⟩) (by show w.heap.size ≤ w.heap.size; omega) v2).setCell (p := ⟨w.heap.size, 3, none⟩) (by show w.heap.size ≤ w.heap.size; omega) v3
  have r0 := fblk_cell (i := 0) (v := .int .i64 0) hbx rfl
  have r1 := fblk_cell (i := 1) (v := .slice none 0 0) hbx rfl
  have r2 := fblk_cell (i := 2) (v := .slice none 0 0) hbx rfl
  have r3 := fblk_cell (i := 3) (v := .slice none 0 0) hbx rfl
  have rf : ∀ i, w1.frozen? ⟨w.heap.size, i, none⟩ = false := fun i => fblk_froz hbx
  have rz := fblk_lt hbx
  clear hb1 hbx HC HB
  go_wp2_with fail
  exact bodyPost_ret (v := .tuple #[faZ, .int .i64 x]) (by simp [faZ, results, Tryz.results5, go_sem, r0, r1, r2, r3]) rfl ⟨rfl, HR3.out _ _ _ _⟩

theorem wrong_ok {l : List (List UInt8)} {base workers : Int} (hx : wrongN l base workers = 0) : ((1 ≤ l.length ∧ l.length ≤ 4) ∧ 1 ≤ workers ∧ workers ≤ 3) ∧ ∀ s ∈ l, s.length ≤ 1200 := by
  unfold wrongN at hx
  split at hx
  · exact absurd hx (by decide)
  · split at hx
    · exact absurd hx (by decide)
    · split at hx
      · exact absurd hx (by decide)
      · rename_i h
        refine ⟨by omega, fun s hs => ?_⟩
        apply Nat.le_of_not_lt
        intro h2
        exact h (List.any_eq_true.2 ⟨s, hs, decide_eq_true h2⟩)
def newJ (s : List UInt8) : Jb := ⟨s, -1, 0, 0, false, [], 0, 0⟩
/-- The first k jobs of a new farm stand. -/
structure NK (w W : World) (gF gJ gD : Nat) (l : List (List UInt8)) (base : Int) (n k : Nat) : Prop where
  bel : Below w.heap.size w W
  lJ : w.heap.size ≤ gJ
  res : W.heap[w.heap.size]? = some (.cells #[.int .i64 0, .slice none 0 0, .slice none 0 0, .slice none 0 0] 27 (0, 0))
  box : W.heap[gF]? = some (.cells #[.int .i64 base, .slice (some ⟨gJ, 0, none⟩) l.length l.length, .slice (some ⟨gD, 0, none⟩) n n, .slice none 0 0] 27 (0, 0))
  jobs : ∃ cur, W.heap[gJ]? = some (.cells cur 40 (0, 0)) ∧ (∀ i (h : i < l.length), k ≤ i → ∀ m, m < 8 → cur[i * 8 + m]? = jz[m]?) ∧ ∀ i (h : i < l.length), i < k → JAt W cur (i * 8) (newJ l[i])
  dead : ∃ cur, W.heap[gD]? = some (.cells cur 4 (0, 0)) ∧ DRow cur (List.replicate n false)
theorem fblk_ne {w : World} {p q : Nat} {c d : Array Value} {t u : TypeId} {y z : Nat × Nat} (hp : w.heap[p]? = some (.cells c t y)) (hq : w.heap[q]? = some (.cells d u z)) (h : t ≠ u) : p ≠ q := by
  intro e
  rw [e, hq] at hp
  injection hp with hp
  injection hp with _ h2 _
  exact h h2.symm
theorem nk_start {w w1 W : World} {gF gJ gD : Nat} {l : List (List UInt8)} {base : Int} {n : Nat} (hb : Below w.heap.size w w1) (hr : w1.heap[w.heap.size]? = some (.cells #[.int .i64 0, .slice none 0 0, .slice none 0 0, .slice none 0 0] 27 (0, 0))) (h2 : Below w1.heap.size w1 W) 
    (hx : W.heap[gF]? = some (.cells #[.int .i64 base, .slice (some ⟨gJ, 0, none⟩) l.length l.length, .slice (some ⟨gD, 0, none⟩) n n, .slice none 0 0] 27 (0, 0)))
    (hJ : W.heap[gJ]? = some (.cells (jobCells l.length) 40 (0, 0))) (hD : W.heap[gD]? = some (.cells (madeCells #[.bool false] n) 4 (0, 0))) (hl : w.heap.size ≤ gJ) : NK w W gF gJ gD l base n 0 :=
  ⟨bnext hb h2, hl, (h2.block _ (fblk_lt hr)).trans hr, hx, ⟨_, hJ, fun i hi _ m hm => by
    unfold jobCells madeCells
    have e1 : i * 8 + m < l.length * 8 := by omega
    have e2 : (i * 8 + m) % 8 = m := by omega
    have : m < jz.size := hm
    have e3 : (i * 8 + m) % jz.size = m := e2
    simp only [Array.getElem?_map, Array.getElem?_range, e1, if_true, Option.map_some, e3]
    simp [this], fun _ _ h => absurd h (Nat.not_lt_zero _)⟩, _, hD, fun k hk => by
    simp only [List.length_replicate] at hk
    unfold madeCells
    simp [hk, Nat.mod_one]⟩
theorem three (w : World) (a b c : Array Value) (ta tb tc : TypeId) : (((w.alloc (.cells a ta)).alloc (.cells b tb)).alloc (.cells c tc)).drew.heap[w.heap.size]? = some (.cells a ta (0, 0)) ∧ (((w.alloc (.cells a ta)).alloc (.cells b tb)).alloc (.cells c tc)).drew.heap[w.heap.size + 1]? = some (.cells b tb (0, 0)) ∧ (((w.alloc (.cells a ta)).alloc (.cells b tb)).alloc (.cells c tc)).drew.heap[w.heap.size + 1 + 1]? = some (.cells c tc (0, 0)) ∧ Below w.heap.size w (((w.alloc (.cells a ta)).alloc (.cells b tb)).alloc (.cells c tc)).drew := by
  refine ⟨?_, ?_, ?_, (bnext (bnext (oalloc w _) (oalloc _ _)) (oalloc _ _)).drew⟩
  · show (World.alloc _ _).heap[w.heap.size]? = _
    rw [Below.heap_alloc _ _ _ (by simp; omega), Below.heap_alloc _ _ _ (by simp)]
    exact fblk_new _ _ _
  · show (World.alloc _ _).heap[w.heap.size + 1]? = _
    have e : (w.alloc (.cells a ta)).heap.size = w.heap.size + 1 := by simp
    rw [Below.heap_alloc _ _ _ (by simp), ← e]
    exact fblk_new _ _ _
  · show (World.alloc _ _).heap[w.heap.size + 1 + 1]? = _
    have e : ((w.alloc (.cells a ta)).alloc (.cells b tb)).heap.size = w.heap.size + 1 + 1 := by simp
    rw [← e]
    exact fblk_new _ _ _
theorem NK.put {w W W1 W2 : World} {gF gJ gD : Nat} {l : List (List UInt8)} {base : Int} {n k : Nat} {cur : Array Value} {sv ov : Value} (h : NK w W gF gJ gD l base n k) (hcu : W.heap[gJ]? = some (.cells cur 40 (0, 0))) (hk : k < l.length) (hb : Below W.heap.size W W1) (hj : JW W1 W2 gJ (k * 8) cur (jV (newJ l[k]) sv ov)) (hs : BK W1 sv l[k]) (ho : BK W1 ov []) : NK w W2 gF gJ gD l base n (k + 1) := by
  obtain ⟨cu, h1, h2, h3⟩ := h.jobs
  rw [hcu] at h1
  injection h1 with h1
  injection h1 with h1 _ _
  subst h1
  obtain ⟨du, d1, d2⟩ := h.dead
  have nr := fblk_ne h.res hcu (by decide)
  have nb := fblk_ne h.box hcu (by decide)
  have nd := fblk_ne d1 hcu (by decide)
  have hc1 := (hb.block gJ (fblk_lt hcu)).trans hcu
  obtain ⟨cur', r1, r2, r3⟩ := hj.row
  have kf : KF W1 W2 := KF.own hc1 mine1 (Nat.le_of_eq hj.sg.size.symm) (fun q hq _ => hj.sg.blk q hq)
  have kf2 := (KF.of hb).trans kf
  refine ⟨(bnext h.bel hb).trans (hj.sg.below h.lJ), h.lJ, ?_, ?_, ⟨cur', r1, fun i hi hik m hm => ?_, fun i hi hik => ?_⟩, du, ?_, d2⟩
  · rw [hj.sg.blk _ nr, hb.block _ (fblk_lt h.res)]; exact h.res
  · rw [hj.sg.blk _ nb, hb.block _ (fblk_lt h.box)]; exact h.box
  · rw [r3 _ (by omega)]; exact h2 i hi (by omega) m hm
  · by_cases e : i = k
    · subst e
      exact ⟨sv, ov, r2, hs.keep kf, ho.keep kf⟩
    · obtain ⟨s2, o2, q1, q2, q3⟩ := h3 i hi (by omega)
      exact ⟨s2, o2, fun m hm => by rw [r3 _ (by omega)]; exact q1 m hm, q2.keep kf2, q3.keep kf2⟩
  · rw [hj.sg.blk _ nd, hb.block _ (fblk_lt d1)]; exact d1

theorem NK.cells {w W : World} {gF gJ gD : Nat} {l : List (List UInt8)} {base : Int} {n k : Nat} (h : NK w W gF gJ gD l base n k) :
    W.cell? ⟨gF, 0, none⟩ = some (.int .i64 base) ∧ W.cell? ⟨gF, 1, none⟩ = some (.slice (some ⟨gJ, 0, none⟩) l.length l.length) ∧ W.cell? ⟨gF, 2, none⟩ = some (.slice (some ⟨gD, 0, none⟩) n n) ∧ W.cell? ⟨gF, 3, none⟩ = some (.slice none 0 0) ∧ gF < W.heap.size :=
  ⟨fblk_cell h.box rfl, fblk_cell h.box rfl, fblk_cell h.box rfl, fblk_cell h.box rfl, fblk_lt h.box⟩
theorem NK.ends {w W : World} {gF gJ gD : Nat} {l : List (List UInt8)} {base : Int} {n : Nat} (h : NK w W gF gJ gD l base n l.length) : FR W 0 gJ l.length gD n (.slice none 0 0) (newF l base n) := by
  obtain ⟨cu, h1, _, h3⟩ := h.jobs
  refine ⟨⟨cu, h1, fun i hi => ?_⟩, h.dead, ⟨[], ⟨rfl, .inl ⟨rfl, rfl⟩⟩, rfl, fun i hi => absurd hi (Nat.not_lt_zero _)⟩, Nat.zero_le _, Nat.zero_le _, by simp [newF], by simp [newF]⟩
  have hi2 : i < l.length := by simpa [newF] using hi
  have e : (newF l base n).jobs[i] = newJ l[i] := by simp [newF, newJ]
  rw [e]
  exact h3 i hi2 hi2

set_option maxHeartbeats 2000000 in
set_option maxRecDepth 100000 in
theorem new_ok (l : List (List UInt8)) (v : Value) (base workers : Int) (w : World) (hv : LS w v l) (hx : wrongN l base workers = 0) :
    Calls Tryz.prog 5 #[v, .int .i64 base, .int .i64 workers] w fun e w' => ∃ v', e = .returned (.tuple #[v', .int .i64 0]) ∧ FV w' v' (newF l base workers.toNat) ∧ Below w.heap.size w w' := by
  have HC : Hid (∀ W, Below w.heap.size w W → Calls Tryz.prog 11 #[v, .int .i64 base, .int .i64 workers] W fun e w' => e = .returned (.int .i64 0) ∧ Below W.heap.size W w') := fun W hb => by
    have := wrongN_any l v base workers W (hv.go hb)
    rw [hx] at this
    exact this
  have HA : Hid (∀ s ∈ l, s.length ≤ 1200) := (wrong_ok hx).2
  have hl := (wrong_ok hx).1
  obtain ⟨⟨hl0, hl1⟩, hw0, hw1⟩ := hl
  have hm1 := run_make_jobs l.length hl1
  have hm2 := run_make_dead workers hw0 hw1
  have HV := Lib.hid hv
  obtain ⟨ad, cap, rfl, hq⟩ := id hv
  clear hq hv hx
  go_enter Tryz.func5, Tryz.ntmps5
  go_wp2_with fail
  refine (HC.out _ (oalloc w _)).mono ?_
  rintro e w1 ⟨rfl, hb1⟩
  have hbx := (hb1.block _ (fblk_lt (fblk_new w #[.int .i64 0, .slice none 0 0, .slice none 0 0, .slice none 0 0] 27))).trans (fblk_new w _ _)
  have HB := Lib.hid (bnext (oalloc w _) hb1)
  have rz := fblk_lt hbx
  have HX := Lib.hid hbx
  clear hb1 hbx HC
  go_wp2_with fail
  go_cut [9] (fun fv W => ∃ gF gJ gD, fv = .pointer (some ⟨gF, 0, none⟩) ∧ NK w W gF gJ gD l base workers.toNat 0)
  case first =>
    go_region_with fail
    all_goals
      go_wp2_with fail
      go_meet
      first
        | exact ⟨_, w1.heap.size + 1, w1.heap.size + 1 + 1, rfl, nk_start HB.out HX.out (three _ _ _ _ _ _ _).2.2.2 (three _ _ _ _ _ _ _).1 (three _ _ _ _ _ _ _).2.1 (three _ _ _ _ _ _ _).2.2.1 (by omega)⟩
        | exact ⟨_, w1.heap.size + 1 + 1, w1.heap.size + 1, rfl, nk_start HB.out HX.out (three _ _ _ _ _ _ _).2.2.2 (three _ _ _ _ _ _ _).1 (three _ _ _ _ _ _ _).2.2.1 (three _ _ _ _ _ _ _).2.1 (by omega)⟩
        | exact ⟨_, w1.heap.size, w1.heap.size + 1 + 1, rfl, nk_start HB.out HX.out (three _ _ _ _ _ _ _).2.2.2 (three _ _ _ _ _ _ _).2.1 (three _ _ _ _ _ _ _).1 (three _ _ _ _ _ _ _).2.2.1 (by omega)⟩
        | exact ⟨_, w1.heap.size + 1 + 1, w1.heap.size, rfl, nk_start HB.out HX.out (three _ _ _ _ _ _ _).2.2.2 (three _ _ _ _ _ _ _).2.1 (three _ _ _ _ _ _ _).2.2.1 (three _ _ _ _ _ _ _).1 (by omega)⟩
        | exact ⟨_, w1.heap.size, w1.heap.size + 1, rfl, nk_start HB.out HX.out (three _ _ _ _ _ _ _).2.2.2 (three _ _ _ _ _ _ _).2.2.1 (three _ _ _ _ _ _ _).1 (three _ _ _ _ _ _ _).2.1 (by omega)⟩
        | exact ⟨_, w1.heap.size + 1, w1.heap.size, rfl, nk_start HB.out HX.out (three _ _ _ _ _ _ _).2.2.2 (three _ _ _ _ _ _ _).2.2.1 (three _ _ _ _ _ _ _).2.1 (three _ _ _ _ _ _ _).1 (by omega)⟩
  case rest =>
    obtain ⟨gF, gJ, gD, rfl, hN⟩ := hcut
    have HN := Lib.hid hN
    clear hN hm1 hm2 HX HB
    go_wp2_with fail
    go_loopw [29] (fun i W => ∃ k : Nat, k ≤ l.length ∧ i = .int .i64 k ∧ Hid (NK w W gF gJ gD l base workers.toNat k)) (fun i _ => l.length - (intOf i).toNat)
    case atStart => exact ⟨0, Nat.zero_le _, rfl, HN⟩
    case round =>
      obtain ⟨k, hk, rfl, HK⟩ := hrel
      clear HN
      by_cases hlt : k < l.length
      · have hk1 : (k : Int) < l.length := by omega
        have hLS := HV.out.go HK.out.bel
        obtain ⟨ad', cap', ev, -, hcs⟩ := hLS
        injection ev with ev1 _ ev3
        subst ev1 ev3
        obtain ⟨b, o, rfl, hbl, hcs2⟩ := hcs (by omega)
        clear hcs
        obtain ⟨u, hu, hru, -⟩ := hcs2 k hlt
        obtain ⟨ua, uc, rfl, -⟩ := id hru
        obtain ⟨-, c1, -, -, cz⟩ := HK.out.cells
        obtain ⟨cur, hcu, hz0, -⟩ := HK.out.jobs
        have hz := hz0 k hlt (Nat.le_refl _)
        obtain ⟨P, hP⟩ : ∃ P, P = k * 8 := ⟨_, rfl⟩
        have hlP : k * 8 = P := hP.symm
        rw [hlP] at hz
        have HCL : Hid (∀ W, Below wr.heap.size wr W → Calls Tryz.prog 12 #[.slice ua l[k].length uc] W fun e w' => ∃ va vc, e = .returned (.slice va l[k].length vc) ∧ w'.cell? ⟨gF, 1, none⟩ = some (.slice (some ⟨gJ, 0, none⟩) l.length l.length) ∧ gF < w'.heap.size ∧ (∀ i, w'.frozen? ⟨gJ, i, none⟩ = false) ∧ (w'.cell? ⟨gJ, P, none⟩ = some (.slice none 0 0) ∧ w'.cell? ⟨gJ, P + 1, none⟩ = some (.int .i64 0) ∧ w'.cell? ⟨gJ, P + 2, none⟩ = some (.int .i64 0) ∧ w'.cell? ⟨gJ, P + 3, none⟩ = some (.int .i64 0) ∧ w'.cell? ⟨gJ, P + 4, none⟩ = some (.bool false) ∧ w'.cell? ⟨gJ, P + 5, none⟩ = some (.slice none 0 0) ∧ w'.cell? ⟨gJ, P + 6, none⟩ = some (.int .i64 0) ∧ w'.cell? ⟨gJ, P + 7, none⟩ = some (.int .i64 0)) ∧ gJ < w'.heap.size ∧
            Hid (∀ w2, JW w' w2 gJ P cur (jV (newJ l[k]) (.slice va l[k].length vc) (.slice none 0 0)) → NK w w2 gF gJ gD l base workers.toNat (k + 1)) ∧ Hid (JW w' w' gJ P cur jz)) := fun W hb => by
          refine (clone_bytes _ l[k] W (rb_go hru hb) (by have := HA.out _ (List.getElem_mem hlt); omega)).mono ?_
          rintro e w' ⟨v, rfl, h1, h2⟩
          obtain ⟨va, vc, rfl⟩ := h1.slice
          have hb3 := bnext hb h2
          have hq := (hb3.block gJ (fblk_lt hcu)).trans hcu
          have hF := (hb3.block gF (fblk_lt HK.out.box)).trans HK.out.box
          refine ⟨va, vc, rfl, fblk_cell hF rfl, fblk_lt hF, fun i => fblk_froz hq, ⟨fblk_cell hq (hz 0 (by omega)), fblk_cell hq (hz 1 (by omega)), fblk_cell hq (hz 2 (by omega)), fblk_cell hq (hz 3 (by omega)), fblk_cell hq (hz 4 (by omega)), fblk_cell hq (hz 5 (by omega)), fblk_cell hq (hz 6 (by omega)), fblk_cell hq (hz 7 (by omega))⟩, fblk_lt hq, fun w2 hj => ?_, JW.start hq hz⟩
          exact HK.out.put hcu hlt hb3 (by rw [hlP]; exact hj) h1 (.inl ⟨rfl, rfl⟩)
        have HW : Hid (Below wr.heap.size wr wr ∧ Below wr.heap.size wr wr.drew) := ⟨Below.refl _ _, (Below.refl _ _).drew⟩
        clear hcs2 hru hcu hz hz0 HK HV hP
        go_wp2_with fail
        go_region_with (go_at_call 12; refine (HCL.out _ (by first | exact HW.out.1 | exact HW.out.2)).mono ?_; rintro e w2 ⟨va, vc, rfl, d1, dz, df, ⟨y0, y1, y2, y3, y4, y5, y6, y7⟩, dJ, HFIN, HJS⟩; clear HCL)
        all_goals
          go_wp2_with fail
          have HJ8 := (((((((HJS.out.set 0 (by omega) rfl (.slice va l[k].length vc)).set 1 (by omega) rfl (.int .i64 (-1))).set 2 (by omega) rfl (.int .i64 0)).set 3 (by omega) rfl (.int .i64 0)).set 4 (by omega) rfl (.bool false)).set 5 (by omega) rfl (.slice none 0 0)).set 6 (by omega) rfl (.int .i64 0)).set 7 (by omega) rfl (.int .i64 0)
          exact ⟨⟨k + 1, by omega, by go_num, HFIN.out _ HJ8⟩, by simp [intOf]; omega⟩
      · have hk1 : ¬ (k : Int) < l.length := by omega
        have e : k = l.length := by omega
        subst e
        obtain ⟨b0, b1, b2, b3, bz⟩ := HK.out.cells
        have hre := HK.out.res
        have hrow := HK.out.ends
        have hbl := HK.out.bel
        have r0 := fblk_cell (i := 0) (v := .int .i64 0) hre rfl
        have r1 := fblk_cell (i := 1) (v := .slice none 0 0) hre rfl
        have r2 := fblk_cell (i := 2) (v := .slice none 0 0) hre rfl
        have r3 := fblk_cell (i := 3) (v := .slice none 0 0) hre rfl
        have rf : ∀ i, wr.frozen? ⟨w.heap.size, i, none⟩ = false := fun i => fblk_froz hre
        have rz := fblk_lt hre
        have HR3 : Hid (∀ v0 v1 v2 v3, FR ((((wr.setCell ⟨w.heap.size, 0, none⟩ v0).setCell ⟨w.heap.size, 1, none⟩ v1).setCell ⟨w.heap.size, 2, none⟩ v2).setCell ⟨w.heap.size, 3, none⟩ v3) 0 gJ l.length gD workers.toNat (.slice none 0 0) (newF l base workers.toNat) ∧ Below w.heap.size w ((((wr.setCell ⟨w.heap.size, 0, none⟩ v0).setCell ⟨w.heap.size, 1, none⟩ v1).setCell ⟨w.heap.size, 2, none⟩ v2).setCell ⟨w.heap.size, 3, none⟩ v3)) := fun v0 v1 v2 v3 =>
          ⟨(((hrow.setFarm hre 0 v0).setFarm (fblk_set hre) 1 v1).setFarm (fblk_set (fblk_set hre)) 2 v2).setFarm (fblk_set (fblk_set (fblk_set hre))) 3 v3, (((hbl.setCell (p := ⟨w.heap.size, 0, none⟩) (by show w.heap.size ≤ w.heap.size; omega) v0).setCell (p := ⟨w.heap.size, 1, none⟩) (by show w.heap.size ≤ w.heap.size; omega) v1).setCell (p := ⟨w.heap.size, 2, none⟩) (by show w.heap.size ≤ w.heap.size; omega) v2).setCell (p := ⟨w.heap.size, 3, none⟩) (by show w.heap.size ≤ w.heap.size; omega) v3⟩
        have e1 : (newF l base workers.toNat).jobs.length = l.length := by simp [newF]
        have e2 : (newF l base workers.toNat).dead.length = workers.toNat := by simp [newF]
        clear hre hrow hbl HK HV
        go_wp2_with fail
        exact bodyPost_ret (v := .tuple #[.agg #[.int .i64 base, .slice (some ⟨gJ, 0, none⟩) l.length l.length, .slice (some ⟨gD, 0, none⟩) workers.toNat workers.toNat, .slice none 0 0], .int .i64 0]) (by simp [results, Tryz.results5, go_sem, r0, r1, r2, r3]) rfl ⟨_, rfl, ⟨gJ, l.length, gD, workers.toNat, _, by unfold fV; rw [e1, e2]; rfl, (HR3.out _ _ _ _).1⟩, (HR3.out _ _ _ _).2⟩
theorem new_fine {S : List UInt8 → Prop} {l : List (List UInt8)} {base workers : Int} (hx : wrongN l base workers = 0) (hS : ∀ s ∈ l, S s) : Fine S 0 (newF l base workers.toNat) := by
  obtain ⟨⟨⟨h1, h2⟩, h3, h4⟩, h5⟩ := wrong_ok hx
  refine ⟨by simpa [newF] using h1, by simpa [newF] using h2, by simp [newF]; omega, by simp [newF]; omega, by simp [newF], fun j hj => ?_, fun b hb => absurd hb List.not_mem_nil⟩
  obtain ⟨s, hs, rfl⟩ := List.mem_map.1 hj
  exact ⟨⟨by simp, by simp, by simp, by simp, by simp, by simp, h5 s hs, by simp⟩, hS s hs⟩
end Go.Proofs.YtbpoiajpcahdhaaGreatDoor.Wi

namespace Go.Proofs.YtbpoiajpcahdhaaGreatDoor.Wi
open Go.RowKit

set_option maxHeartbeats 2000000 in
set_option maxRecDepth 100000 in
theorem do_drop (n : Nat) (B F gJ cJ gD cD : Nat) (wv : Value) (f : Fm) (w : World) (h : FO w B F gJ cJ gD cD wv f) (hl : f.way.length ≤ 12) (hn : n < f.way.length) (hB : B ≤ w.heap.size) :
    Calls Tryz.prog 14 #[.pointer (some ⟨F, 0, none⟩), .agg #[.int .i64 3, .int .i64 n]] w fun e w' => e = .returned (.int .i64 0) ∧ FW w w' B F gJ cJ gD cD (dropF f n) := by
  have HN := Lib.hid (do_num 3 n B F gJ cJ gD cD wv f (dropF f n) w h hB 27 ent_do2 f.way.length hn (fun W wv' hO _ hD hB2 => do2_any B F gJ cJ gD cD w.heap.size (w.heap.size + 1) n 3 wv' f W hO hD hl hn hB2))
  obtain ⟨wa, wc, rfl⟩ := h.rows.way_shape
  have hbb : ∀ k' : Int, Below w.heap.size w ((w.alloc (.cells #[.pointer (some ⟨F, 0, none⟩)] 51)).alloc (.cells #[.int .i64 k', .int .i64 n] 33)) := fun k' => bnext (oalloc w _) (oalloc _ _)
  have hv3 := ((hbb 3).cell (p := ⟨F, 3, none⟩) (fblk_lt h.box)).trans (fblk_cell (i := 3) (v := .slice wa f.way.length wc) h.box rfl)
  have hvz := Nat.lt_of_lt_of_le (fblk_lt h.box) (hbb 3).size
  have HDB := Lib.hid (db_of h hB 3 n).1
  clear hbb h
  go_enter Tryz.func14, Tryz.ntmps14
  go_wp2_with fail
  obtain ⟨V, hV⟩ : ∃ V, V = (w.alloc (.cells #[.pointer (some ⟨F, 0, none⟩)] 51)).alloc (.cells #[.int .i64 3, .int .i64 n] 33) := ⟨_, rfl⟩
  rw [← hV] at HN HDB hv3 hvz ⊢
  clear hV
  have cf := fblk_cell (i := 0) (v := .pointer (some ⟨F, 0, none⟩)) HDB.out.f rfl
  have cs := fblk_cell (i := 1) (v := .int .i64 (n : Int)) HDB.out.s rfl
  have zf := fblk_lt HDB.out.f
  have zs := fblk_lt HDB.out.s
  refine wp_region_noPanic ?_
  refine wp_region_held_drew (S := fun W => W.cell? ⟨w.heap.size, 0, none⟩ = some (.pointer (some ⟨F, 0, none⟩)) ∧ W.cell? ⟨w.heap.size + 1, 1, none⟩ = some (.int .i64 (n : Int))) (by kernel_rfl) ⟨cf, cs⟩ (fun hHeld => ?_)
  clear cf cs
  refine ktake_at 0 24 (v := ?_) rfl rfl (by kernel_rfl) (by kernel_rfl) (by kernel_rfl) (fun _ _ _ h => h) rfl ?_ hHeld ?_
  rotate_left
  · intro w0 hSw
    go_simp
    try with_reducible rfl
  simp only [List.setIfInBounds_toArray, List.set_cons_zero, List.set_cons_succ]
  refine ktake_at 1 25 (v := ?_) rfl rfl (by kernel_rfl) (by kernel_rfl) (by kernel_rfl) (fun _ _ _ h => h) rfl ?_ hHeld ?_
  rotate_left
  · intro w0 hSw
    have x1 := hSw.2
    go_simp
    try with_reducible rfl
  simp only [List.setIfInBounds_toArray, List.set_cons_zero, List.set_cons_succ]
  refine ktake_at 2 26 (v := ?_) rfl rfl (by kernel_rfl) (by kernel_rfl) (by kernel_rfl) (fun _ _ _ h => h) rfl ?_ hHeld ?_
  rotate_left
  · intro w0 hSw
    have x1 := hSw.1
    go_simp
    try with_reducible rfl
  simp only [List.setIfInBounds_toArray, List.set_cons_zero, List.set_cons_succ]
  refine ktake_at 3 27 (v := ?_) rfl rfl (by kernel_rfl) (by kernel_rfl) (by kernel_rfl) (fun _ _ _ h => h) rfl ?_ hHeld ?_
  rotate_left
  · intro w0 hSw
    go_simp
    try with_reducible rfl
  simp only [List.setIfInBounds_toArray, List.set_cons_zero, List.set_cons_succ]
  refine ktake_at 4 28 (v := ?_) rfl rfl (by kernel_rfl) (by kernel_rfl) (by kernel_rfl) (fun _ _ _ h => h) rfl ?_ hHeld ?_
  rotate_left
  · intro w0 hSw
    go_simp
    try with_reducible rfl
  simp only [List.setIfInBounds_toArray, List.set_cons_zero, List.set_cons_succ]
  refine ktake_at 7 31 (v := ?_) rfl rfl (by kernel_rfl) (by kernel_rfl) (by kernel_rfl) (fun _ _ _ h => h) rfl ?_ hHeld ?_
  rotate_left
  · intro w0 hSw
    go_simp
    try with_reducible rfl
  simp only [List.setIfInBounds_toArray, List.set_cons_zero, List.set_cons_succ]
  refine wpAnyH_ready (rs := [5]) (by kernel_rfl) (by simp) ?_
  refine AllReadyH.cons rfl (fun K hK => ?_) AllReadyH.nil
  go_simp
  refine hK.out _ _ hHeld (fun hHeld => ?_)
  clear hK K
  refine ktake_at 6 30 (v := ?_) rfl rfl (by kernel_rfl) (by kernel_rfl) (by kernel_rfl) (fun _ _ _ h => h) rfl ?_ hHeld ?_
  rotate_left
  · intro w0 hSw
    go_simp
    try with_reducible rfl
  simp only [List.setIfInBounds_toArray, List.set_cons_zero, List.set_cons_succ]
  refine wpAnyH_ready (rs := [8]) (by kernel_rfl) (by simp) ?_
  refine AllReadyH.cons rfl (fun K hK => ?_) AllReadyH.nil
  go_simp
  refine (HN.out _ (Below.refl _ _).drew).mono ?_
  rintro e w4 ⟨rfl, h4, hdb4⟩
  have H4 := Lib.hid h4
  go_simp
  refine hK.out _ _ ⟨fblk_cell hdb4.f rfl, fblk_cell hdb4.s rfl⟩ (fun hHeld => ?_)
  clear hK K HN h4 hdb4
  refine ktake_at 9 4 (v := ?_) rfl rfl (by kernel_rfl) (by kernel_rfl) (by kernel_rfl) (fun _ _ _ h => h) rfl ?_ hHeld ?_
  rotate_left
  · intro w0 hSw
    go_simp
    try with_reducible rfl
  simp only [List.setIfInBounds_toArray, List.set_cons_zero, List.set_cons_succ]
  refine wpAnyH_done (by kernel_rfl) ?_ _
  refine NoPanic.normal ?_
  go_wp2_with fail
  go_ret
  exact ⟨rfl, H4.out⟩

set_option maxHeartbeats 2000000 in
set_option maxRecDepth 100000 in
theorem do_go (S : List UInt8 → Prop) (T : Int) (n : Nat) (B F gJ cJ gD cD : Nat) (wv : Value) (f : Fm) (U : Ms → Ms) (w : World) (h : FO w B F gJ cJ gD cD wv f) (hf : Fine S T f) (hn : n < f.way.length) (hB : B ≤ w.heap.size) (hW : WL w) (hg : 0 < B) (hU : ∀ m, parseM f.way[n] = .ok m → m.kind = 1 → live f.dead m.worker = true → (∀ W, Below B w W → AnsAt W m (U m)) ∧ (U m).data.length ≤ 1000000000) :
    Calls Tryz.prog 14 #[.pointer (some ⟨F, 0, none⟩), .agg #[.int .i64 2, .int .i64 n]] w fun e w' => e = .returned (.int .i64 0) ∧ FW w w' B F gJ cJ gD cD (comeF U (dropF f n) f.way[n]) := by
  have HN := Lib.hid (do_num 2 n B F gJ cJ gD cD wv f (comeF U (dropF f n) f.way[n]) w h hB 24 ent_do1 f.way.length hn (fun W wv' hO hb hD hB2 => do1_any S T B F gJ cJ gD cD w.heap.size (w.heap.size + 1) n 2 wv' f U W hO hD hf hn hB2 (hW.stay hb hg) hg (fun m h1 h2 h3 => ⟨fun V hV => (hU m h1 h2 h3).1 V (hb.trans hV), (hU m h1 h2 h3).2⟩)))
  obtain ⟨wa, wc, rfl⟩ := h.rows.way_shape
  have hbb : ∀ k' : Int, Below w.heap.size w ((w.alloc (.cells #[.pointer (some ⟨F, 0, none⟩)] 51)).alloc (.cells #[.int .i64 k', .int .i64 n] 33)) := fun k' => bnext (oalloc w _) (oalloc _ _)
  have hv3 := ((hbb 2).cell (p := ⟨F, 3, none⟩) (fblk_lt h.box)).trans (fblk_cell (i := 3) (v := .slice wa f.way.length wc) h.box rfl)
  have hvz := Nat.lt_of_lt_of_le (fblk_lt h.box) (hbb 2).size
  have HDB := Lib.hid (db_of h hB 2 n).1
  clear hbb h hf hW hU
  go_enter Tryz.func14, Tryz.ntmps14
  go_wp2_with fail
  obtain ⟨V, hV⟩ : ∃ V, V = (w.alloc (.cells #[.pointer (some ⟨F, 0, none⟩)] 51)).alloc (.cells #[.int .i64 2, .int .i64 n] 33) := ⟨_, rfl⟩
  rw [← hV] at HN HDB hv3 hvz ⊢
  clear hV
  have cf := fblk_cell (i := 0) (v := .pointer (some ⟨F, 0, none⟩)) HDB.out.f rfl
  have cs := fblk_cell (i := 1) (v := .int .i64 (n : Int)) HDB.out.s rfl
  have zf := fblk_lt HDB.out.f
  have zs := fblk_lt HDB.out.s
  refine wp_region_noPanic ?_
  refine wp_region_held_drew (S := fun W => W.cell? ⟨w.heap.size, 0, none⟩ = some (.pointer (some ⟨F, 0, none⟩)) ∧ W.cell? ⟨w.heap.size + 1, 1, none⟩ = some (.int .i64 (n : Int))) (by kernel_rfl) ⟨cf, cs⟩ (fun hHeld => ?_)
  clear cf cs
  refine ktake_at 0 13 (v := ?_) rfl rfl (by kernel_rfl) (by kernel_rfl) (by kernel_rfl) (fun _ _ _ h => h) rfl ?_ hHeld ?_
  rotate_left
  · intro w0 hSw
    go_simp
    try with_reducible rfl
  simp only [List.setIfInBounds_toArray, List.set_cons_zero, List.set_cons_succ]
  refine ktake_at 1 14 (v := ?_) rfl rfl (by kernel_rfl) (by kernel_rfl) (by kernel_rfl) (fun _ _ _ h => h) rfl ?_ hHeld ?_
  rotate_left
  · intro w0 hSw
    have x1 := hSw.2
    go_simp
    try with_reducible rfl
  simp only [List.setIfInBounds_toArray, List.set_cons_zero, List.set_cons_succ]
  refine ktake_at 2 15 (v := ?_) rfl rfl (by kernel_rfl) (by kernel_rfl) (by kernel_rfl) (fun _ _ _ h => h) rfl ?_ hHeld ?_
  rotate_left
  · intro w0 hSw
    have x1 := hSw.1
    go_simp
    try with_reducible rfl
  simp only [List.setIfInBounds_toArray, List.set_cons_zero, List.set_cons_succ]
  refine ktake_at 3 16 (v := ?_) rfl rfl (by kernel_rfl) (by kernel_rfl) (by kernel_rfl) (fun _ _ _ h => h) rfl ?_ hHeld ?_
  rotate_left
  · intro w0 hSw
    go_simp
    try with_reducible rfl
  simp only [List.setIfInBounds_toArray, List.set_cons_zero, List.set_cons_succ]
  refine ktake_at 4 17 (v := ?_) rfl rfl (by kernel_rfl) (by kernel_rfl) (by kernel_rfl) (fun _ _ _ h => h) rfl ?_ hHeld ?_
  rotate_left
  · intro w0 hSw
    go_simp
    try with_reducible rfl
  simp only [List.setIfInBounds_toArray, List.set_cons_zero, List.set_cons_succ]
  refine ktake_at 7 20 (v := ?_) rfl rfl (by kernel_rfl) (by kernel_rfl) (by kernel_rfl) (fun _ _ _ h => h) rfl ?_ hHeld ?_
  rotate_left
  · intro w0 hSw
    go_simp
    try with_reducible rfl
  simp only [List.setIfInBounds_toArray, List.set_cons_zero, List.set_cons_succ]
  refine wpAnyH_ready (rs := [5]) (by kernel_rfl) (by simp) ?_
  refine AllReadyH.cons rfl (fun K hK => ?_) AllReadyH.nil
  go_simp
  refine hK.out _ _ hHeld (fun hHeld => ?_)
  clear hK K
  refine ktake_at 6 19 (v := ?_) rfl rfl (by kernel_rfl) (by kernel_rfl) (by kernel_rfl) (fun _ _ _ h => h) rfl ?_ hHeld ?_
  rotate_left
  · intro w0 hSw
    go_simp
    try with_reducible rfl
  simp only [List.setIfInBounds_toArray, List.set_cons_zero, List.set_cons_succ]
  refine wpAnyH_ready (rs := [8]) (by kernel_rfl) (by simp) ?_
  refine AllReadyH.cons rfl (fun K hK => ?_) AllReadyH.nil
  go_simp
  refine (HN.out _ (Below.refl _ _).drew).mono ?_
  rintro e w4 ⟨rfl, h4, hdb4⟩
  have H4 := Lib.hid h4
  go_simp
  refine hK.out _ _ ⟨fblk_cell hdb4.f rfl, fblk_cell hdb4.s rfl⟩ (fun hHeld => ?_)
  clear hK K HN h4 hdb4
  refine ktake_at 9 4 (v := ?_) rfl rfl (by kernel_rfl) (by kernel_rfl) (by kernel_rfl) (fun _ _ _ h => h) rfl ?_ hHeld ?_
  rotate_left
  · intro w0 hSw
    go_simp
    try with_reducible rfl
  simp only [List.setIfInBounds_toArray, List.set_cons_zero, List.set_cons_succ]
  refine wpAnyH_done (by kernel_rfl) ?_ _
  refine NoPanic.normal ?_
  go_wp2_with fail
  go_ret
  exact ⟨rfl, H4.out⟩

set_option maxHeartbeats 2000000 in
set_option maxRecDepth 100000 in
theorem do_die (n : Nat) (B F gJ cJ gD cD : Nat) (wv : Value) (f : Fm) (w : World) (h : FO w B F gJ cJ gD cD wv f) (hn : n < f.dead.length) (hB : B ≤ w.heap.size) :
    Calls Tryz.prog 14 #[.pointer (some ⟨F, 0, none⟩), .agg #[.int .i64 5, .int .i64 n]] w fun e w' => e = .returned (.int .i64 0) ∧ FW w w' B F gJ cJ gD cD (dieF f n) := by
  have HN := Lib.hid (do_num 5 n B F gJ cJ gD cD wv f (dieF f n) w h hB 30 ent_do4 f.dead.length hn (fun W wv' hO _ hD hB2 => do4_any B F gJ cJ gD cD w.heap.size (w.heap.size + 1) n 5 wv' f W hO hD hn hB2))
  have hbb : ∀ k' : Int, Below w.heap.size w ((w.alloc (.cells #[.pointer (some ⟨F, 0, none⟩)] 51)).alloc (.cells #[.int .i64 k', .int .i64 n] 33)) := fun k' => bnext (oalloc w _) (oalloc _ _)
  have hv3 := ((hbb 5).cell (p := ⟨F, 2, none⟩) (fblk_lt h.box)).trans (fblk_cell (i := 2) (v := .slice (some ⟨gD, 0, none⟩) f.dead.length cD) h.box rfl)
  have hvz := Nat.lt_of_lt_of_le (fblk_lt h.box) (hbb 5).size
  have HDB := Lib.hid (db_of h hB 5 n).1
  clear hbb h
  go_enter Tryz.func14, Tryz.ntmps14
  go_wp2_with fail
  obtain ⟨V, hV⟩ : ∃ V, V = (w.alloc (.cells #[.pointer (some ⟨F, 0, none⟩)] 51)).alloc (.cells #[.int .i64 5, .int .i64 n] 33) := ⟨_, rfl⟩
  rw [← hV] at HN HDB hv3 hvz ⊢
  clear hV
  have cf := fblk_cell (i := 0) (v := .pointer (some ⟨F, 0, none⟩)) HDB.out.f rfl
  have cs := fblk_cell (i := 1) (v := .int .i64 (n : Int)) HDB.out.s rfl
  have zf := fblk_lt HDB.out.f
  have zs := fblk_lt HDB.out.s
  refine wp_region_noPanic ?_
  refine wp_region_held_drew (S := fun W => W.cell? ⟨w.heap.size, 0, none⟩ = some (.pointer (some ⟨F, 0, none⟩)) ∧ W.cell? ⟨w.heap.size + 1, 1, none⟩ = some (.int .i64 (n : Int))) (by kernel_rfl) ⟨cf, cs⟩ (fun hHeld => ?_)
  clear cf cs
  refine ktake_at 0 46 (v := ?_) rfl rfl (by kernel_rfl) (by kernel_rfl) (by kernel_rfl) (fun _ _ _ h => h) rfl ?_ hHeld ?_
  rotate_left
  · intro w0 hSw
    go_simp
    try with_reducible rfl
  simp only [List.setIfInBounds_toArray, List.set_cons_zero, List.set_cons_succ]
  refine ktake_at 1 47 (v := ?_) rfl rfl (by kernel_rfl) (by kernel_rfl) (by kernel_rfl) (fun _ _ _ h => h) rfl ?_ hHeld ?_
  rotate_left
  · intro w0 hSw
    have x1 := hSw.2
    go_simp
    try with_reducible rfl
  simp only [List.setIfInBounds_toArray, List.set_cons_zero, List.set_cons_succ]
  refine ktake_at 2 48 (v := ?_) rfl rfl (by kernel_rfl) (by kernel_rfl) (by kernel_rfl) (fun _ _ _ h => h) rfl ?_ hHeld ?_
  rotate_left
  · intro w0 hSw
    have x1 := hSw.1
    go_simp
    try with_reducible rfl
  simp only [List.setIfInBounds_toArray, List.set_cons_zero, List.set_cons_succ]
  refine ktake_at 3 49 (v := ?_) rfl rfl (by kernel_rfl) (by kernel_rfl) (by kernel_rfl) (fun _ _ _ h => h) rfl ?_ hHeld ?_
  rotate_left
  · intro w0 hSw
    go_simp
    try with_reducible rfl
  simp only [List.setIfInBounds_toArray, List.set_cons_zero, List.set_cons_succ]
  refine ktake_at 4 50 (v := ?_) rfl rfl (by kernel_rfl) (by kernel_rfl) (by kernel_rfl) (fun _ _ _ h => h) rfl ?_ hHeld ?_
  rotate_left
  · intro w0 hSw
    go_simp
    try with_reducible rfl
  simp only [List.setIfInBounds_toArray, List.set_cons_zero, List.set_cons_succ]
  refine ktake_at 7 53 (v := ?_) rfl rfl (by kernel_rfl) (by kernel_rfl) (by kernel_rfl) (fun _ _ _ h => h) rfl ?_ hHeld ?_
  rotate_left
  · intro w0 hSw
    go_simp
    try with_reducible rfl
  simp only [List.setIfInBounds_toArray, List.set_cons_zero, List.set_cons_succ]
  refine wpAnyH_ready (rs := [5]) (by kernel_rfl) (by simp) ?_
  refine AllReadyH.cons rfl (fun K hK => ?_) AllReadyH.nil
  go_simp
  refine hK.out _ _ hHeld (fun hHeld => ?_)
  clear hK K
  refine ktake_at 6 52 (v := ?_) rfl rfl (by kernel_rfl) (by kernel_rfl) (by kernel_rfl) (fun _ _ _ h => h) rfl ?_ hHeld ?_
  rotate_left
  · intro w0 hSw
    go_simp
    try with_reducible rfl
  simp only [List.setIfInBounds_toArray, List.set_cons_zero, List.set_cons_succ]
  refine wpAnyH_ready (rs := [8]) (by kernel_rfl) (by simp) ?_
  refine AllReadyH.cons rfl (fun K hK => ?_) AllReadyH.nil
  go_simp
  refine (HN.out _ (Below.refl _ _).drew).mono ?_
  rintro e w4 ⟨rfl, h4, hdb4⟩
  have H4 := Lib.hid h4
  go_simp
  refine hK.out _ _ ⟨fblk_cell hdb4.f rfl, fblk_cell hdb4.s rfl⟩ (fun hHeld => ?_)
  clear hK K HN h4 hdb4
  refine ktake_at 9 4 (v := ?_) rfl rfl (by kernel_rfl) (by kernel_rfl) (by kernel_rfl) (fun _ _ _ h => h) rfl ?_ hHeld ?_
  rotate_left
  · intro w0 hSw
    go_simp
    try with_reducible rfl
  simp only [List.setIfInBounds_toArray, List.set_cons_zero, List.set_cons_succ]
  refine wpAnyH_done (by kernel_rfl) ?_ _
  refine NoPanic.normal ?_
  go_wp2_with fail
  go_ret
  exact ⟨rfl, H4.out⟩

end Go.Proofs.YtbpoiajpcahdhaaGreatDoor.Wi
