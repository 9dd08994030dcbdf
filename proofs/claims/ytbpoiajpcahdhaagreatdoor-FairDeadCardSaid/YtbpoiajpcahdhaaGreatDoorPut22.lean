/- farm.wrong: what is wrong with what New is handed. farm.Own: a copy. -/
import Derived.Test.YtbpoiajpcahdhaaGreatDoorPut14
import Derived.Test.YtbpoiajpcahdhaaGreatDoorPut18
import Derived.Test.YtbpoiajpcahdhaaGreatDoorPut19
namespace Go.Proofs.YtbpoiajpcahdhaaGreatDoor.Wi
open Go.RowKit

/-- A list of bytes, each of which lies somewhere. -/
def LS (w : World) (v : Value) (l : List (List UInt8)) : Prop := ∃ ad cap, v = .slice ad l.length cap ∧ l.length ≤ 200000000000000 ∧ (0 < l.length → ∃ b o, ad = some ⟨b, o, none⟩ ∧ b < w.heap.size ∧ ∀ i (h : i < l.length), ∃ u, w.cell? ⟨b, o + i, none⟩ = some u ∧ RB w w.heap.size u l[i] ∧ l[i].length ≤ 200000000000000)
theorem rb_go {w w' : World} {v : Value} {l : List UInt8} (h : RB w w.heap.size v l) (hb : Below w.heap.size w w') : RB w' w'.heap.size v l := by
  obtain ⟨ad, cap, rfl, h⟩ := h
  refine ⟨ad, cap, rfl, ?_⟩
  rcases h with h | ⟨a, rfl, hc, h⟩
  · exact .inl h
  · refine .inr ⟨a, rfl, hc, fun h0 => ?_⟩
    obtain ⟨b, o, rfl, hbl, hcs⟩ := h h0
    exact ⟨b, o, rfl, Nat.lt_of_lt_of_le hbl hb.size, fun i hi => (hb.cell (by exact hbl)).trans (hcs i hi)⟩
theorem LS.go {w w' : World} {v : Value} {l : List (List UInt8)} (h : LS w v l) (hb : Below w.heap.size w w') : LS w' v l := by
  obtain ⟨ad, cap, rfl, hl, h⟩ := h
  refine ⟨ad, cap, rfl, hl, fun h0 => ?_⟩
  obtain ⟨b, o, rfl, hbl, hc⟩ := h h0
  refine ⟨b, o, rfl, Nat.lt_of_lt_of_le hbl hb.size, fun i hi => ?_⟩
  obtain ⟨u, h1, h2, h3⟩ := hc i hi
  exact ⟨u, (hb.cell (by exact hbl)).trans h1, rb_go h2 hb, h3⟩

def longL (l : List UInt8) : Bool := decide (1200 < l.length)
set_option maxRecDepth 100000 in
theorem long_any (l : List UInt8) (ad : Option Addr) (cap : Nat) (w : World) : Calls Tryz.prog 17 #[.slice ad l.length cap] w fun e w' => e = .returned (.bool (longL l)) ∧ w' = w := by
  unfold longL
  by_cases h : 1200 < l.length
  · have h1 : (1200 : Int) < l.length := by omega
    rw [show decide (1200 < l.length) = true from decide_eq_true h]
    go_enter Tryz.func17, Tryz.ntmps17
    go_wp2
    go_ret
    exact ⟨rfl, rfl⟩
  · have h1 : ¬ (1200 : Int) < l.length := by omega
    go_enter Tryz.func17, Tryz.ntmps17
    go_wp2
    go_ret
    exact ⟨rfl, rfl⟩

def idxS (p : List UInt8 → Bool) : List (List UInt8) → Nat → Int
  | [], _ => -1
  | j :: r, k => if p j then (k : Int) else idxS p r (k + 1)
theorem idxS_any (p : List UInt8 → Bool) : ∀ (l : List (List UInt8)) (k : Nat), (decide (0 ≤ idxS p l k)) = l.any p
  | [], _ => rfl
  | j :: r, k => by
    unfold idxS
    rw [List.any_cons]
    cases h : p j
    · simpa using idxS_any p r (k + 1)
    · simp
theorem idxS_step (p : List UInt8 → Bool) (l : List (List UInt8)) (k : Nat) (h : k < l.length) : idxS p (l.drop k) k = if p l[k] then (k : Int) else idxS p (l.drop (k + 1)) (k + 1) := by
  rw [List.drop_eq_getElem_cons h]
  rfl
theorem idxS_none (p : List UInt8 → Bool) (l : List (List UInt8)) (k : Nat) (h : l.length ≤ k) : idxS p (l.drop k) k = -1 := by rw [List.drop_eq_nil_of_le h]; rfl

set_option maxHeartbeats 2000000 in
set_option maxRecDepth 100000 in
theorem index_srcs (l : List (List UInt8)) (v : Value) (w : World) (hv : LS w v l) :
    Calls Tryz.prog 32 #[v, .func (.func 17) #[] #[]] w fun e w' => e = .returned (.int .i64 (idxS longL l 0)) ∧ Below w.heap.size w w' := by
  obtain ⟨ad, cap, rfl, hll, hc⟩ := hv
  have HC := Lib.hid hc
  clear hc
  have HLO := Lib.hid long_any
  go_enter Tryz.func32, Tryz.ntmps32
  go_wp2_with fail
  go_loopw [8] (fun i W => ∃ k : Nat, k ≤ l.length ∧ i = .int .i64 k ∧ Hid (Below w.heap.size w W) ∧ Hid (idxS longL (l.drop k) k = idxS longL l 0)) (fun i _ => l.length - (intOf i).toNat)
  case atStart => exact ⟨0, Nat.zero_le _, rfl, Below.refl _ _, by show idxS longL (l.drop 0) 0 = _; rw [List.drop_zero]⟩
  case round =>
    obtain ⟨k, hk, rfl, HB, HI⟩ := hrel
    by_cases hlt : k < l.length
    · have hk1 : (k : Int) < l.length := by omega
      obtain ⟨b, o, rfl, hbl, hcs⟩ := HC.out (by omega)
      obtain ⟨u, hu, hru, _⟩ := hcs k hlt
      obtain ⟨ua, uc, rfl, _⟩ := id hru
      have e0 := (HB.out.cell (p := ⟨b, o + k, none⟩) hbl).trans hu
      have hz := Nat.lt_of_lt_of_le hbl HB.out.size
      have HCALL := Lib.hid (HLO.out l[k] ua uc wr)
      have HST := Lib.hid (idxS_step longL l k hlt)
      obtain ⟨bb, hb⟩ : ∃ b, longL l[k] = b := ⟨_, rfl⟩
      rw [hb] at HCALL HST
      clear hcs hu hru hb
      generalize l[k].length = ln at *
      cases bb
      all_goals
        go_wp2_with fail
        refine HCALL.out.mono ?_
        rintro e w1 ⟨rfl, rfl⟩
        clear HCALL
        go_wp2_with fail
      · exact ⟨⟨k + 1, by omega, by go_num, HB, HST.out.symm.trans HI.out⟩, by simp [intOf]; omega⟩
      · go_ret
        have := HST.out
        refine ⟨?_, HB.out⟩
        rw [← HI.out, this]
        rfl
    · have hk1 : ¬ (k : Int) < l.length := by omega
      have HN := Lib.hid (idxS_none longL l k (by omega))
      go_wp2_with fail
      go_ret
      refine ⟨?_, HB.out⟩
      rw [← HI.out, HN.out]
      rfl

set_option maxHeartbeats 2000000 in
set_option maxRecDepth 100000 in
theorem contains_srcs (l : List (List UInt8)) (v : Value) (w : World) (hv : LS w v l) :
    Calls Tryz.prog 18 #[v, .func (.func 17) #[] #[]] w fun e w' => e = .returned (.bool (l.any longL)) ∧ Below w.heap.size w w' := by
  have HI := Lib.hid (index_srcs l v w hv)
  have HE := Lib.hid (idxS_any longL l 0)
  obtain ⟨ad, cap, rfl, _⟩ := id hv
  generalize idxS longL l 0 = x at *
  clear hv
  go_enter Tryz.func18, Tryz.ntmps18
  go_wp2_with fail
  refine HI.out.mono ?_
  rintro e w1 ⟨rfl, hb1⟩
  have HB1 := Lib.hid hb1
  clear hb1
  go_wp2_with fail
  go_ret
  refine ⟨?_, HB1.out⟩
  rw [← HE.out]
  exact ret_bool (by simp)

def wrongN (l : List (List UInt8)) (base workers : Int) : Int :=
  if l.length < 1 ∨ 4 < l.length ∨ workers < 1 ∨ 3 < workers then 5
  else if base < 0 ∨ 1048576 < base ∨ base.tmod 4 ≠ 0 then 3
  else if l.any longL = true then 4 else 0

set_option maxHeartbeats 4000000 in
set_option maxRecDepth 100000 in
theorem wrongN_any (l : List (List UInt8)) (v : Value) (base workers : Int) (w : World) (hv : LS w v l) :
    Calls Tryz.prog 11 #[v, .int .i64 base, .int .i64 workers] w fun e w' => e = .returned (.int .i64 (wrongN l base workers)) ∧ Below w.heap.size w w' := by
  obtain ⟨ad, cap, rfl, hq⟩ := id hv
  clear hq
  have HC := Lib.hid (contains_srcs l _ w hv)
  clear hv
  by_cases h1 : l.length < 1 ∨ 4 < l.length ∨ workers < 1 ∨ 3 < workers
  · have e : wrongN l base workers = 5 := by unfold wrongN; rw [if_pos h1]
    rw [e]
    have h2 : ((l.length : Nat) : Int) < 1 ∨ (¬ ((l.length : Nat) : Int) < 1 ∧ (4 : Int) < (l.length : Nat)) ∨ (¬ ((l.length : Nat) : Int) < 1 ∧ ¬ (4 : Int) < (l.length : Nat) ∧ workers < 1) ∨ (¬ ((l.length : Nat) : Int) < 1 ∧ ¬ (4 : Int) < (l.length : Nat) ∧ ¬ workers < 1 ∧ 3 < workers) := by omega
    clear h1 e HC
    generalize l.length = n at *
    rcases h2 with h | ⟨h, h2⟩ | ⟨h, h2, h3⟩ | ⟨h, h2, h3, h4⟩
    all_goals
      go_enter Tryz.func11, Tryz.ntmps11
      go_wp2_with fail
      go_ret
      exact ⟨rfl, Below.refl _ _⟩
  · have g1 : ¬ ((l.length : Nat) : Int) < 1 := by omega
    have g2 : ¬ (4 : Int) < (l.length : Nat) := by omega
    have g3 : ¬ workers < 1 := by omega
    have g4 : ¬ (3 : Int) < workers := by omega
    by_cases h2 : base < 0 ∨ 1048576 < base ∨ base.tmod 4 ≠ 0
    · have e : wrongN l base workers = 3 := by unfold wrongN; rw [if_neg h1, if_pos h2]
      rw [e]
      have h3 : base < 0 ∨ (¬ base < 0 ∧ (1048576 : Int) < base) ∨ (¬ base < 0 ∧ ¬ (1048576 : Int) < base ∧ (base % 4 != 0) = true) := by
        by_cases hz : base < 0
        · exact .inl hz
        · have := Int.tmod_eq_emod_of_nonneg (b := 4) (show 0 ≤ base by omega)
          rw [this] at h2
          simp only [bne_iff_ne]
          omega
      clear h1 h2 e HC
      generalize l.length = n at *
      rcases h3 with h | ⟨h, h3⟩ | ⟨h, h3, h4⟩
      all_goals
        go_enter Tryz.func11, Tryz.ntmps11
        go_wp2_with fail
        go_ret
        exact ⟨rfl, Below.refl _ _⟩
    · have k1 : ¬ base < 0 := by omega
      have k2 : ¬ (1048576 : Int) < base := by omega
      have k3 : (base % 4 != 0) = false := by
        have := Int.tmod_eq_emod_of_nonneg (b := 4) (show 0 ≤ base by omega)
        rw [this] at h2
        rw [bne_eq_false_iff_eq]
        omega
      have e : wrongN l base workers = if l.any longL = true then 4 else 0 := by unfold wrongN; rw [if_neg h1, if_neg h2]
      rw [e]
      clear h1 h2 e
      generalize l.any longL = bb at *
      generalize l.length = n at *
      cases bb
      all_goals
        go_enter Tryz.func11, Tryz.ntmps11
        go_wp2_with fail
        refine HC.out.mono ?_
        rintro e w1 ⟨rfl, hb1⟩
        have HB1 := Lib.hid hb1
        clear hb1 HC
        go_wp2_with fail
        go_ret
        exact ⟨rfl, HB1.out⟩

end Go.Proofs.YtbpoiajpcahdhaaGreatDoor.Wi

namespace Go.Proofs.YtbpoiajpcahdhaaGreatDoor.Wi
open Go.RowKit

/-- What lies in a row of jobs, as far as there are jobs. -/
theorem jrow_size {w : World} {cur : Array Value} {js : List Jb} (h : JRow w cur js) : js.length * 8 ≤ cur.size := by
  rcases Nat.eq_zero_or_pos js.length with h0 | h0
  · omega
  · obtain ⟨sv, ov, hc, _⟩ := h (js.length - 1) (by omega)
    have := hc 7 (by decide)
    have h2 : (jV (js[js.length - 1]'(by omega)) sv ov)[7]? = some (.int .i64 (js[js.length - 1]'(by omega)).place) := rfl
    rw [h2] at this
    have := (Array.getElem?_eq_some_iff.1 this).1
    omega
theorem jrow_one {w : World} {cur : Array Value} {js : List Jb} (h : JRow w cur js) : ∀ u ∈ cur.toList.take (js.length * 8), u.oneCell' = true := by
  intro u hu
  obtain ⟨i, hi, e⟩ := List.mem_iff_getElem.1 hu
  have hs := jrow_size h
  rw [List.length_take] at hi
  have hi2 : i < js.length * 8 := by omega
  have hk : i / 8 < js.length := by omega
  obtain ⟨sv, ov, hc, h1, h2⟩ := h (i / 8) hk
  obtain ⟨a1, c1, e1⟩ := h1.slice
  obtain ⟨a2, c2, e2⟩ := h2.slice
  have hm := hc (i % 8) (by omega)
  rw [show i / 8 * 8 + i % 8 = i by omega] at hm
  have e3 : cur[i]? = some u := by
    rw [← e, List.getElem_take, ← Array.getElem?_toList]
    exact List.getElem?_eq_getElem _
  rw [e3] at hm
  have hr : i % 8 = 0 ∨ i % 8 = 1 ∨ i % 8 = 2 ∨ i % 8 = 3 ∨ i % 8 = 4 ∨ i % 8 = 5 ∨ i % 8 = 6 ∨ i % 8 = 7 := by omega
  rcases hr with r | r | r | r | r | r | r | r <;> (rw [r] at hm; simp [jV] at hm; subst hm; first | rfl | (rw [e1]; rfl) | (rw [e2]; rfl))
theorem jrow_of {w w' : World} {cur cur' : Array Value} {js : List Jb} (h : JRow w cur js) (k : KF w w') (he : ∀ i, i < js.length * 8 → cur'[i]? = cur[i]?) : JRow w' cur' js := fun k2 hk => by
  obtain ⟨sv, ov, hc, h1, h2⟩ := h k2 hk
  exact ⟨sv, ov, fun m hm => by rw [he _ (by omega)]; exact hc m hm, h1.keep k, h2.keep k⟩

theorem own_cells {w : World} {B q n lc size : Nat} {e : TypeId} {xs : List Value} (h : w.ownsRow B e size (.slice (some ⟨q, 0, none⟩) n lc) n xs) : B ≤ q ∧ n ≤ lc ∧ ∃ cur, w.heap[q]? = some (.cells cur e (0, 0)) ∧ ∀ i, i < n * size → cur[i]? = xs[i]? := by
  rcases h.2 with ⟨h1, _⟩ | ⟨g, cap, cur, h1, h2, h3, h4, _, _, h5⟩
  · cases h1
  · injection h1 with h1 _ h6
    injection h1 with h1
    injection h1 with h1 _ _
    subst h1 h6
    refine ⟨h2, h4, cur, h3, fun i hi => ?_⟩
    rw [← h5, List.getElem?_take_of_lt hi, Array.getElem?_toList]

/-- The three copies. -/
theorem clone_jobs {w : World} {B gJ cJ gD cD : Nat} {wv : Value} {f : Fm} (h : FR w B gJ cJ gD cD wv f) (hl : f.jobs.length ≤ 4) (W : World) (hb : Below w.heap.size w W) :
    Calls Tryz.prog 19 #[.slice (some ⟨gJ, 0, none⟩) f.jobs.length cJ] W fun e w' => ∃ q lc, e = .returned (.slice (some ⟨q, 0, none⟩) f.jobs.length lc) ∧ Below W.heap.size W w' ∧ W.heap.size ≤ q ∧ f.jobs.length ≤ lc ∧ ∃ cur, w'.heap[q]? = some (.cells cur 40 (0, 0)) ∧ JRow w' cur f.jobs := by
  obtain ⟨cur, hc, hr⟩ := h.jobs
  have hs := jrow_size hr
  have hc' := (hb.block gJ (fblk_lt hc)).trans hc
  refine (cloneJ ⟨gJ, 0, none⟩ f.jobs.length cJ (cur.toList.take (f.jobs.length * 8)) W (by rw [List.length_take]; simp; omega) (fun j u hj => ?_) (jrow_one hr) (by omega)).mono ?_
  · rw [faddr, Nat.zero_add]
    refine fblk_cell hc' ?_
    have hj1 : j < f.jobs.length * 8 := by have := (List.getElem?_eq_some_iff.1 hj).1; rw [List.length_take] at this; omega
    rw [List.getElem?_take_of_lt hj1] at hj
    rw [← Array.getElem?_toList]
    exact hj
  · rintro e w' ⟨q, lc, rfl, ho, hb2⟩
    obtain ⟨h1, h2, cur', h3, h4⟩ := own_cells ho
    refine ⟨q, lc, rfl, hb2, h1, h2, cur', h3, jrow_of hr ((KF.of hb).trans (KF.of hb2)) (fun i hi => ?_)⟩
    rw [h4 i hi, List.getElem?_take_of_lt hi, Array.getElem?_toList]
theorem clone_dead {w : World} {B gJ cJ gD cD : Nat} {wv : Value} {f : Fm} (h : FR w B gJ cJ gD cD wv f) (hl : f.dead.length ≤ 3) (W : World) (hb : Below w.heap.size w W) :
    Calls Tryz.prog 20 #[.slice (some ⟨gD, 0, none⟩) f.dead.length cD] W fun e w' => ∃ q lc, e = .returned (.slice (some ⟨q, 0, none⟩) f.dead.length lc) ∧ Below W.heap.size W w' ∧ W.heap.size ≤ q ∧ f.dead.length ≤ lc ∧ ∃ cur, w'.heap[q]? = some (.cells cur 4 (0, 0)) ∧ DRow cur f.dead := by
  obtain ⟨cur, hc, hr⟩ := h.dead
  have hc' := (hb.block gD (fblk_lt hc)).trans hc
  refine (cloneD ⟨gD, 0, none⟩ f.dead.length cD (f.dead.map Value.bool) W (by simp) (fun j u hj => ?_) (by intro u hu; obtain ⟨b, _, rfl⟩ := List.mem_map.1 hu; rfl) (by omega)).mono ?_
  · rw [faddr, Nat.zero_add]
    refine fblk_cell hc' ?_
    have hj1 : j < f.dead.length := by have := (List.getElem?_eq_some_iff.1 hj).1; simpa using this
    rw [hr j hj1]
    simp [List.getElem?_eq_getElem hj1] at hj
    rw [hj]
  · rintro e w' ⟨q, lc, rfl, ho, hb2⟩
    obtain ⟨h1, h2, cur', h3, h4⟩ := own_cells ho
    refine ⟨q, lc, rfl, hb2, h1, h2, cur', h3, fun k hk => ?_⟩
    rw [h4 k (by omega)]
    simp [List.getElem?_eq_getElem hk]
theorem clone_way {w : World} {B gJ cJ gD cD : Nat} {wv : Value} {f : Fm} (h : FR w B gJ cJ gD cD wv f) (hl : f.way.length ≤ 12) (W : World) (hb : Below w.heap.size w W) :
    Calls Tryz.prog 21 #[wv] W fun e w' => ∃ la lc, e = .returned (.slice la f.way.length lc) ∧ Below W.heap.size W w' ∧ ∃ xs, w'.ownsRow W.heap.size 36 1 (.slice la f.way.length lc) f.way.length xs ∧ WRow w' xs f.way := by
  obtain ⟨xs, hx, hr⟩ := h.way
  have hx' := ownsRow_go hx hb (Nat.le_refl _)
  rcases id hx.2 with ⟨rfl, h0⟩ | ⟨g, cap, cur, rfl, hBg, hg, hnc, hcm, hcs, ht⟩
  · refine (cloneW_nil 0 0 W).mono ?_
    rintro e w' ⟨rfl, rfl⟩
    exact ⟨none, 0, by rw [h0], Below.refl _ _, xs, ⟨hx.1, .inl ⟨by rw [h0], h0⟩⟩, hr.keep (KF.of hb)⟩
  · refine (cloneW ⟨g, 0, none⟩ f.way.length cap xs W hx.1 (fun j u hj => hx'.cells (g := g) rfl j u hj) (jb_one hr) (by omega)).mono ?_
    rintro e w' ⟨q, lc, rfl, ho, hb2⟩
    exact ⟨_, lc, rfl, hb2, xs, ho, hr.keep ((KF.of hb).trans (KF.of hb2))⟩

/-- Take number i first: what it yields lies in slot d. -/
theorem ftake_at {P : Program} {md : Region.Mode} {ops : Array Oper} {Q : Exit → Act → World → Prop} {S : World → Prop} (i d : Nat) {oi : Oper} {v : Value} {fuel : Nat} {listed : Array Bool} {T : Array Value} {D : List Deferred} {w : World} (hi : ops[i]? = some oi) (hd : oi.dst = some d)
    (hs : Region.noSelect ops = true) (hf : Region.free md ops listed i = true) (hr : (Region.ready md ops listed).contains i = true)
    (hQ : ∀ c a w, Q (.panic c) (a.put oi.dst v) w → Q (.panic c) a w) (hw : Region.wanted oi (yielded ops T) = true) (hy : ∀ w, S w → (execOp (Act.eval ⟨T, D⟩) oi).run P w = .ok (.value v) w) (hS : S w)
    (h : wpAnyH P md ops Q S fuel (listed.setIfInBounds i true) ⟨T.setIfInBounds d v, D⟩ w) : wpAnyH P md ops Q S (fuel + 1) listed ⟨T, D⟩ w := by
  refine wpAnyH_take hi hs hf hr hQ (Or.inl ⟨hw, hy⟩) hS ?_
  rw [hd]
  exact h

/-- A later world that has the box. -/
theorem FR.setFarm {w : World} {B gJ cJ gD cD : Nat} {wv : Value} {f : Fm} (h : FR w B gJ cJ gD cD wv f) {r : Nat} {c : Array Value} (hr : w.heap[r]? = some (.cells c 27 (0, 0))) (i : Nat) (v : Value) : FR (w.setCell ⟨r, i, none⟩ v) B gJ cJ gD cD wv f := by
  have kf : KF w (w.setCell ⟨r, i, none⟩ v) := KF.set hr mine0 v
  have oth : ∀ {q : Nat} {c' : Array Value} {t : TypeId} {z : Nat × Nat}, w.heap[q]? = some (.cells c' t z) → t ≠ 27 → (w.setCell ⟨r, i, none⟩ v).heap[q]? = some (.cells c' t z) := fun {q c' t z} hq ht => by
    rw [Below.heap_setCell _ _ _ _ ?_]
    · exact hq
    · intro e0
      have e0 : q = r := e0
      subst e0
      rw [hr] at hq
      injection hq with hq
      injection hq with _ h2 _
      exact ht h2.symm
  obtain ⟨cu, h1, h2⟩ := h.jobs
  obtain ⟨du, h3, h4⟩ := h.dead
  obtain ⟨xs, h5, h6⟩ := h.way
  refine ⟨⟨cu, oth h1 (by decide), h2.keep kf⟩, ⟨du, oth h3 (by decide), h4⟩, ⟨xs, ⟨h5.1, ?_⟩, h6.keep kf⟩, h.lJ, h.lD, h.cJ, h.cD⟩
  rcases h5.2 with e | ⟨g, cap, cur, e1, e2, e3, e4⟩
  · exact .inl e
  · exact .inr ⟨g, cap, cur, e1, e2, oth e3 (by decide), e4⟩
def ResB (w W : World) : Prop := W.heap[w.heap.size + 1]? = some (.cells #[.int .i64 0, .slice none 0 0, .slice none 0 0, .slice none 0 0] 27 (0, 0))
theorem ResB.next {w X Y : World} (h : ResB w X) (hb : Below X.heap.size X Y) : ResB w Y := (hb.block _ (fblk_lt h)).trans h
theorem ResB.set {w X : World} (h : ResB w X) {q : Nat} (hq : w.heap.size + 1 ≠ q) (i : Nat) (v : Value) : ResB w (X.setCell ⟨q, i, none⟩ v) := (Below.heap_setCell _ _ _ _ hq).trans h
theorem ResB.ne {w X : World} (h : ResB w X) {q : Nat} {c : Array Value} {t : TypeId} {z : Nat × Nat} (hq : X.heap[q]? = some (.cells c t z)) (ht : t ≠ 27) : w.heap.size + 1 ≠ q := by
  intro e
  unfold ResB at h
  rw [e, hq] at h
  injection h with h
  injection h with _ h2 _
  exact ht h2
structure OKW (w W : World) : Prop where
  bel : Below w.heap.size w W
  box : ∃ c, W.heap[w.heap.size]? = some (.cells c 27 (0, 0))
  res : ResB w W
theorem OKW.lt {w W : World} (h : OKW w W) : w.heap.size < W.heap.size := by obtain ⟨c, h⟩ := h.box; exact fblk_lt h
theorem OKW.set {w X : World} (h : OKW w X) (i : Nat) (v : Value) : OKW w (X.setCell ⟨w.heap.size, i, none⟩ v) := ⟨h.bel.setCell (p := ⟨w.heap.size, i, none⟩) (Nat.le_refl _) v, by obtain ⟨c, hc⟩ := h.box; exact ⟨_, fblk_set hc⟩, h.res.set (by omega) i v⟩
theorem OKW.next {w X Y : World} (h : OKW w X) (hb : Below X.heap.size X Y) : OKW w Y := ⟨bnext h.bel hb, by obtain ⟨c, hc⟩ := h.box; exact ⟨c, (hb.block _ (fblk_lt hc)).trans hc⟩, h.res.next hb⟩
theorem OKW.same {w X Y : World} (h : OKW w X) (hb : Below X.heap.size X Y) : (∀ i, Y.cell? ⟨w.heap.size, i, none⟩ = X.cell? ⟨w.heap.size, i, none⟩) ∧ ∀ i, Y.frozen? ⟨w.heap.size, i, none⟩ = X.frozen? ⟨w.heap.size, i, none⟩ :=
  ⟨fun i => hb.cell (p := ⟨w.heap.size, i, none⟩) h.lt, fun i => by simp only [World.frozen?]; rw [hb.block _ h.lt]⟩
theorem OKW.kf {w X : World} (h : OKW w X) (i : Nat) (v : Value) : KF X (X.setCell ⟨w.heap.size, i, none⟩ v) := by obtain ⟨c, hc⟩ := h.box; exact KF.set hc mine0 v

structure PJ (w X : World) (f : Fm) (q l : Nat) : Prop where
  ok : OKW w X
  lt : w.heap.size < q
  cap : f.jobs.length ≤ l
  row : ∃ cur, X.heap[q]? = some (.cells cur 40 (0, 0)) ∧ JRow X cur f.jobs
theorem PJ.next {w X Y : World} {f : Fm} {q l : Nat} (h : PJ w X f q l) (hb : Below X.heap.size X Y) : PJ w Y f q l := by
  obtain ⟨cur, h1, h2⟩ := h.row
  exact ⟨h.ok.next hb, h.lt, h.cap, cur, (hb.block _ (fblk_lt h1)).trans h1, h2.keep (KF.of hb)⟩
theorem PJ.set {w X : World} {f : Fm} {q l : Nat} (h : PJ w X f q l) (i : Nat) (v : Value) : PJ w (X.setCell ⟨w.heap.size, i, none⟩ v) f q l := by
  obtain ⟨cur, h1, h2⟩ := h.row
  have := h.lt
  exact ⟨h.ok.set i v, h.lt, h.cap, cur, (Below.heap_setCell _ _ _ _ (by show q ≠ w.heap.size; omega)).trans h1, h2.keep (h.ok.kf i v)⟩
structure PD (w X : World) (f : Fm) (q l : Nat) : Prop where
  ok : OKW w X
  lt : w.heap.size < q
  cap : f.dead.length ≤ l
  row : ∃ cur, X.heap[q]? = some (.cells cur 4 (0, 0)) ∧ DRow cur f.dead
theorem PD.next {w X Y : World} {f : Fm} {q l : Nat} (h : PD w X f q l) (hb : Below X.heap.size X Y) : PD w Y f q l := by
  obtain ⟨cur, h1, h2⟩ := h.row
  exact ⟨h.ok.next hb, h.lt, h.cap, cur, (hb.block _ (fblk_lt h1)).trans h1, h2⟩
theorem PD.set {w X : World} {f : Fm} {q l : Nat} (h : PD w X f q l) (i : Nat) (v : Value) : PD w (X.setCell ⟨w.heap.size, i, none⟩ v) f q l := by
  obtain ⟨cur, h1, h2⟩ := h.row
  have := h.lt
  exact ⟨h.ok.set i v, h.lt, h.cap, cur, (Below.heap_setCell _ _ _ _ (by show q ≠ w.heap.size; omega)).trans h1, h2⟩
structure PW (w X : World) (f : Fm) (v : Value) : Prop where
  ok : OKW w X
  row : ∃ xs, X.ownsRow w.heap.size 36 1 v f.way.length xs ∧ WRow X xs f.way
theorem PW.next {w X Y : World} {f : Fm} {v : Value} (h : PW w X f v) (hb : Below X.heap.size X Y) : PW w Y f v := by
  obtain ⟨xs, h1, h2⟩ := h.row
  exact ⟨h.ok.next hb, xs, ownsRow_go h1 hb (Nat.le_refl _), h2.keep (KF.of hb)⟩
theorem PW.set {w X : World} {f : Fm} {v : Value} (h : PW w X f v) (i : Nat) (u : Value) : PW w (X.setCell ⟨w.heap.size, i, none⟩ u) f v := by
  obtain ⟨xs, h1, h2⟩ := h.row
  obtain ⟨c, hc⟩ := h.ok.box
  refine ⟨h.ok.set i u, xs, ⟨h1.1, ?_⟩, h2.keep (h.ok.kf i u)⟩
  rcases h1.2 with e | ⟨g, cap, cur, e1, e2, e3, e4⟩
  · exact .inl e
  · refine .inr ⟨g, cap, cur, e1, e2, ?_, e4⟩
    rw [Below.heap_setCell _ _ _ _ ?_]
    · exact e3
    · intro e0
      have e0 : g = w.heap.size := e0
      subst e0
      rw [hc] at e3
      injection e3 with e3
      injection e3 with _ e5 _
      exact absurd e5 (by decide)
structure BX (w X : World) (b v1 v2 v3 : Value) : Prop where
  box : X.heap[w.heap.size]? = some (.cells #[b, v1, v2, v3] 27 (0, 0))
theorem BX.next {w X Y : World} {b v1 v2 v3 : Value} (h : BX w X b v1 v2 v3) (hb : Below X.heap.size X Y) : BX w Y b v1 v2 v3 := ⟨(hb.block _ (fblk_lt h.box)).trans h.box⟩
theorem BX.set1 {w X : World} {b v1 v2 v3 : Value} (h : BX w X b v1 v2 v3) (u : Value) : BX w (X.setCell ⟨w.heap.size, 1, none⟩ u) b u v2 v3 := ⟨fblk_set h.box⟩
theorem BX.set2 {w X : World} {b v1 v2 v3 : Value} (h : BX w X b v1 v2 v3) (u : Value) : BX w (X.setCell ⟨w.heap.size, 2, none⟩ u) b v1 u v3 := ⟨fblk_set h.box⟩
theorem BX.set3 {w X : World} {b v1 v2 v3 : Value} (h : BX w X b v1 v2 v3) (u : Value) : BX w (X.setCell ⟨w.heap.size, 3, none⟩ u) b v1 v2 u := ⟨fblk_set h.box⟩
theorem own_fo {w X : World} {f : Fm} {q1 l1 q2 l2 : Nat} {v : Value} (h1 : PJ w X f q1 l1) (h2 : PD w X f q2 l2) (h3 : PW w X f v) (h4 : BX w X (.int .i64 f.base) (.slice (some ⟨q1, 0, none⟩) f.jobs.length l1) (.slice (some ⟨q2, 0, none⟩) f.dead.length l2) v) : FO X w.heap.size w.heap.size q1 l1 q2 l2 v f :=
  ⟨⟨h1.row, h2.row, h3.row, Nat.le_of_lt h1.lt, Nat.le_of_lt h2.lt, h1.cap, h2.cap⟩, h4.box, Nat.le_refl _⟩

set_option maxHeartbeats 8000000 in
set_option maxRecDepth 100000 in
theorem own_any (gJ cJ gD cD : Nat) (wv : Value) (f : Fm) (w : World) (h : FR w 0 gJ cJ gD cD wv f) (h1 : f.jobs.length ≤ 4) (h2 : f.dead.length ≤ 3) (h3 : f.way.length ≤ 12) (hfit : ∀ (k : Nat) (h : k < f.jobs.length), f.jobs[k].src.length ≤ 100000000000 ∧ f.jobs[k].obj.length ≤ 100000000000) (hfitw : ∀ b ∈ f.way, b.length ≤ 100000000000) :
    Calls Tryz.prog 13 #[.agg (fV f gJ cJ gD cD wv)] w fun e w' => ∃ gJ' cJ' gD' cD' wv', e = .returned (.agg (fV f gJ' cJ' gD' cD' wv')) ∧ FR w' w.heap.size gJ' cJ' gD' cD' wv' f ∧ Below w.heap.size w w' := by
  have HJ : Hid (∀ W, OKW w W → Calls Tryz.prog 19 #[.slice (some ⟨gJ, 0, none⟩) f.jobs.length cJ] W fun e w' => ∃ q lc, e = .returned (.slice (some ⟨q, 0, none⟩) f.jobs.length lc) ∧ OKW w w' ∧ ((∀ i, w'.cell? ⟨w.heap.size, i, none⟩ = W.cell? ⟨w.heap.size, i, none⟩) ∧ ∀ i, w'.frozen? ⟨w.heap.size, i, none⟩ = W.frozen? ⟨w.heap.size, i, none⟩) ∧ Hid (Below W.heap.size W w' ∧ PJ w w' f q lc)) := fun W hW => by
    refine (clone_jobs h h1 W hW.bel).mono ?_
    rintro e w' ⟨q, lc, rfl, hb, h4, h5, h6⟩
    exact ⟨q, lc, rfl, hW.next hb, hW.same hb, hb, hW.next hb, Nat.lt_of_lt_of_le hW.lt h4, h5, h6⟩
  have HD : Hid (∀ W, OKW w W → Calls Tryz.prog 20 #[.slice (some ⟨gD, 0, none⟩) f.dead.length cD] W fun e w' => ∃ q lc, e = .returned (.slice (some ⟨q, 0, none⟩) f.dead.length lc) ∧ OKW w w' ∧ ((∀ i, w'.cell? ⟨w.heap.size, i, none⟩ = W.cell? ⟨w.heap.size, i, none⟩) ∧ ∀ i, w'.frozen? ⟨w.heap.size, i, none⟩ = W.frozen? ⟨w.heap.size, i, none⟩) ∧ Hid (Below W.heap.size W w' ∧ PD w w' f q lc)) := fun W hW => by
    refine (clone_dead h h2 W hW.bel).mono ?_
    rintro e w' ⟨q, lc, rfl, hb, h4, h5, h6⟩
    exact ⟨q, lc, rfl, hW.next hb, hW.same hb, hb, hW.next hb, Nat.lt_of_lt_of_le hW.lt h4, h5, h6⟩
  have HW : Hid (∀ W, OKW w W → Calls Tryz.prog 21 #[wv] W fun e w' => ∃ la lc, e = .returned (.slice la f.way.length lc) ∧ OKW w w' ∧ ((∀ i, w'.cell? ⟨w.heap.size, i, none⟩ = W.cell? ⟨w.heap.size, i, none⟩) ∧ ∀ i, w'.frozen? ⟨w.heap.size, i, none⟩ = W.frozen? ⟨w.heap.size, i, none⟩) ∧ Hid (Below W.heap.size W w' ∧ PW w w' f (.slice la f.way.length lc))) := fun W hW => by
    refine (clone_way h h3 W hW.bel).mono ?_
    rintro e w' ⟨la, lc, rfl, hb, xs, h4, h5⟩
    exact ⟨la, lc, rfl, hW.next hb, hW.same hb, hb, hW.next hb, xs, ⟨h4.1, by
      rcases h4.2 with h6 | ⟨g, cap, cur, e1, e2, e3⟩
      · exact .inl h6
      · exact .inr ⟨g, cap, cur, e1, Nat.le_trans hW.bel.size e2, e3⟩⟩, h5⟩
  obtain ⟨wa, wc, rfl⟩ := h.way_shape
  have HBB : Hid (BX w (World.drew (World.alloc (World.alloc w (.cells #[.int .i64 f.base, .slice (some ⟨gJ, 0, none⟩) f.jobs.length cJ, .slice (some ⟨gD, 0, none⟩) f.dead.length cD, .slice wa f.way.length wc] 27)) (.cells #[.int .i64 0, .slice none 0 0, .slice none 0 0, .slice none 0 0] 27))) (.int .i64 f.base) (.slice (some ⟨gJ, 0, none⟩) f.jobs.length cJ) (.slice (some ⟨gD, 0, none⟩) f.dead.length cD) (.slice wa f.way.length wc)) := ⟨by
    show (World.alloc _ _).heap[w.heap.size]? = _
    rw [Below.heap_alloc _ _ _ (by simp)]
    exact fblk_new w _ _⟩
  have HB0 : Hid (OKW w (World.drew (World.alloc (World.alloc w (.cells #[.int .i64 f.base, .slice (some ⟨gJ, 0, none⟩) f.jobs.length cJ, .slice (some ⟨gD, 0, none⟩) f.dead.length cD, .slice wa f.way.length wc] 27)) (.cells #[.int .i64 0, .slice none 0 0, .slice none 0 0, .slice none 0 0] 27)))) := ⟨(bnext (oalloc w _) (oalloc _ _)).drew, ⟨_, HBB.out.box⟩, by
    show (World.alloc _ _).heap[w.heap.size + 1]? = _
    have e9 : (w.alloc (.cells #[.int .i64 f.base, .slice (some ⟨gJ, 0, none⟩) f.jobs.length cJ, .slice (some ⟨gD, 0, none⟩) f.dead.length cD, .slice wa f.way.length wc] 27)).heap.size = w.heap.size + 1 := by simp
    rw [← e9]
    exact fblk_new _ _ _⟩
  clear h
  unfold fV
  go_enter Tryz.func13, Tryz.ntmps13
  go_wp2_with fail
  go_cut [] (fun wc => ∃ q1 l1 q2 l2 la lc, FO wc w.heap.size w.heap.size q1 l1 q2 l2 (.slice la f.way.length lc) f ∧ OKW w wc)
  case first =>
    go_region_with (first
      | (go_at_call 19; refine (HJ.out _ (by repeat' first | exact HB0.out | apply OKW.set | assumption)).mono ?_; rintro e wj ⟨q1, l1, rfl, okj, ⟨ej, fj⟩, HRJ⟩; have ltj := okj.lt)
      | (go_at_call 20; refine (HD.out _ (by repeat' first | exact HB0.out | apply OKW.set | assumption)).mono ?_; rintro e wd ⟨q2, l2, rfl, okd, ⟨ed, fd⟩, HRD⟩; have ltd := okd.lt)
      | (go_at_call 21; refine (HW.out _ (by repeat' first | exact HB0.out | apply OKW.set | assumption)).mono ?_; rintro e ww ⟨q3, l3, rfl, okw, ⟨ew, fw⟩, HRW⟩; have ltw := okw.lt))
    all_goals
      go_wp2_with fail
      go_meet
      refine ⟨q1, l1, q2, l2, q3, l3, own_fo ?_ ?_ ?_ ?_, ?_⟩
      · repeat' first | exact HRJ.out.2 | apply PJ.set | refine PJ.next ?_ HRW.out.1 | refine PJ.next ?_ HRD.out.1
      · repeat' first | exact HRD.out.2 | apply PD.set | refine PD.next ?_ HRW.out.1 | refine PD.next ?_ HRJ.out.1
      · repeat' first | exact HRW.out.2 | apply PW.set | refine PW.next ?_ HRJ.out.1 | refine PW.next ?_ HRD.out.1
      · first
          | exact (((((HBB.out.next HRJ.out.1).next HRD.out.1).next HRW.out.1).set1 _).set2 _).set3 _
          | exact (((((HBB.out.next HRJ.out.1).set1 _).next HRD.out.1).next HRW.out.1).set2 _).set3 _
          | exact (((((HBB.out.next HRJ.out.1).set1 _).next HRD.out.1).set2 _).next HRW.out.1).set3 _
          | exact (((((HBB.out.next HRJ.out.1).next HRD.out.1).set1 _).next HRW.out.1).set2 _).set3 _
          | exact (((((HBB.out.next HRJ.out.1).next HRD.out.1).set1 _).set2 _).next HRW.out.1).set3 _
      · repeat' first | exact HB0.out | apply OKW.set | assumption
  case rest =>
    obtain ⟨q1, l1, q2, l2, la, lc, hFO, hOK⟩ := hcut
    have hR := Lib.hid (FW.of hFO)
    have HOK := Lib.hid hOK
    have c1 := fblk_cell (i := 1) (v := .slice (some ⟨q1, 0, none⟩) f.jobs.length l1) hFO.box rfl
    have hz := fblk_lt hFO.box
    clear hFO hOK HJ HD HW HBB HB0
    go_wp2_with fail
    go_loopw [22] (fun i W => ∃ k : Nat, k ≤ f.jobs.length ∧ i = .int .i64 k ∧ Hid (FW wc W w.heap.size w.heap.size q1 l1 q2 l2 f) ∧ Hid (ResB w W)) (fun i _ => f.jobs.length - (intOf i).toNat)
    case atStart => exact ⟨0, Nat.zero_le _, rfl, hR, HOK.out.res⟩
    case round =>
      obtain ⟨k, hk, rfl, HF, HRE⟩ := hrel
      clear hR c1 hz
      by_cases hlt : k < f.jobs.length
      · have hk1 : (k : Int) < f.jobs.length := by omega
        obtain ⟨wv', hO⟩ := HF.out.own
        obtain ⟨cur, hcu, hrow⟩ := hO.rows.jobs
        obtain ⟨sv, ov, hj, hsv, hov⟩ := hrow k hlt
        obtain ⟨sa, sc, rfl⟩ := hsv.slice
        obtain ⟨oa, oc, rfl⟩ := hov.slice
        obtain ⟨e0, e1, e2, e3, e4, e5, e6, e7⟩ := jc_of hcu hj
        have hbx := hO.box
        have hfj : f.jobs[k].src.length ≤ 100000000000 ∧ f.jobs[k].obj.length ≤ 100000000000 := ⟨(hfit k hlt).1, (hfit k hlt).2⟩
        have HFIN : Hid (∀ V W W' v1 v2 (P : Nat), P = k * 8 → Below wr.heap.size wr V → Below V.heap.size V W → JW W W' q1 P cur (jV f.jobs[k] v1 v2) → BK W v1 f.jobs[k].src → BK W v2 f.jobs[k].obj → FW wc W' w.heap.size w.heap.size q1 l1 q2 l2 f) := fun V W W' v1 v2 P hP hb1 hb2 hjw h1 h2 => by
          subst hP
          have hb := bnext hb1 hb2
          have := FO.written (hO.go hb) (Below.refl _ _) ((hb.block q1 (fblk_lt hcu)).trans hcu) hlt (Nat.le_trans (Nat.le_of_lt HOK.out.lt) (Nat.le_trans HF.out.bel.size hb.size)) hjw h1 h2
          rw [List.set_getElem_self] at this
          exact FW.ahead (HF.out.bel.trans (hb.mono (Nat.le_trans (Nat.le_of_lt HOK.out.lt) HF.out.bel.size))) (HF.out.kf.trans (KF.of hb)) this.1
        obtain ⟨j, hjj⟩ : ∃ j, f.jobs[k] = j := ⟨_, rfl⟩
        rw [hjj] at e0 e1 e2 e3 e4 e5 e6 e7 hfj hsv hov hj
        simp only [hjj] at HFIN
        have HJS : Hid (∀ V W, Below wr.heap.size wr V → Below V.heap.size V W → JW W W q1 (k * 8) cur (jV j (.slice sa j.src.length sc) (.slice oa j.obj.length oc))) := fun V W hb1 hb2 => JW.start (((bnext hb1 hb2).block q1 (fblk_lt hcu)).trans hcu) hj
        obtain ⟨P, hP⟩ : ∃ P, P = k * 8 := ⟨_, rfl⟩
        have HP := Lib.hid hP
        rw [← hP] at e0 e1 e2 e3 e4 e5 e6 e7 HJS
        have hlP : k * 8 = P := hP.symm
        have HFA : Hid (∀ V W, Below wr.heap.size wr V → V.heap[wr.heap.size]? = some (.cells (jV j (.slice sa j.src.length sc) (.slice oa j.obj.length oc)) 40 (0, 0)) → Below V.heap.size V W → (W.cell? ⟨w.heap.size, 1, none⟩ = some (.slice (some ⟨q1, 0, none⟩) f.jobs.length l1)) ∧ W.cell? ⟨wr.heap.size, 0, none⟩ = some (.slice sa j.src.length sc) ∧ W.cell? ⟨wr.heap.size, 5, none⟩ = some (.slice oa j.obj.length oc) ∧ (∀ i, W.frozen? ⟨q1, i, none⟩ = false) ∧ W.cell? ⟨q1, P, none⟩ = some (.slice sa j.src.length sc) ∧ W.cell? ⟨q1, P + 5, none⟩ = some (.slice oa j.obj.length oc) ∧ q1 < W.heap.size ∧ w.heap.size < W.heap.size ∧ wr.heap.size < W.heap.size) := fun V W hb1 hV hb2 => by
          have hb := bnext hb1 hb2
          have hV2 := (hb2.block _ (fblk_lt hV)).trans hV
          have hq := (hb.block q1 (fblk_lt hcu)).trans hcu
          exact ⟨fblk_cell ((hb.block _ (fblk_lt hbx)).trans hbx) rfl, fblk_cell hV2 rfl, fblk_cell hV2 rfl, fun i => fblk_froz hq, (hb.cell (by exact fblk_lt hcu)).trans e0, (hb.cell (by exact fblk_lt hcu)).trans e5, fblk_lt hq, fblk_lt ((hb.block _ (fblk_lt hbx)).trans hbx), fblk_lt hV2⟩
        have HC1 : Hid (∀ V W, Below wr.heap.size wr V → V.heap[wr.heap.size]? = some (.cells (jV j (.slice sa j.src.length sc) (.slice oa j.obj.length oc)) 40 (0, 0)) → Below V.heap.size V W → Calls Tryz.prog 12 #[.slice sa j.src.length sc] W fun e w' => ∃ va vc, e = .returned (.slice va j.src.length vc) ∧ Below V.heap.size V w' ∧ ((w'.cell? ⟨w.heap.size, 1, none⟩ = some (.slice (some ⟨q1, 0, none⟩) f.jobs.length l1)) ∧ w'.cell? ⟨wr.heap.size, 0, none⟩ = some (.slice sa j.src.length sc) ∧ w'.cell? ⟨wr.heap.size, 5, none⟩ = some (.slice oa j.obj.length oc) ∧ (∀ i, w'.frozen? ⟨q1, i, none⟩ = false) ∧ w'.cell? ⟨q1, P, none⟩ = some (.slice sa j.src.length sc) ∧ w'.cell? ⟨q1, P + 5, none⟩ = some (.slice oa j.obj.length oc) ∧ q1 < w'.heap.size ∧ w.heap.size < w'.heap.size ∧ wr.heap.size < w'.heap.size) ∧ Hid (Below W.heap.size W w' ∧ BK w' (.slice va j.src.length vc) j.src)) := fun V W hb1 hV hb2 => by
          refine (clone_bytes _ j.src W ((hsv.below (bnext hb1 hb2)).rb) hfj.1).mono ?_
          rintro e w' ⟨v, rfl, h1, h2⟩
          obtain ⟨va, vc, rfl⟩ := h1.slice
          exact ⟨va, vc, rfl, bnext hb2 h2, HFA.out V w' hb1 hV (bnext hb2 h2), h2, h1⟩
        have HC2 : Hid (∀ V W, Below wr.heap.size wr V → V.heap[wr.heap.size]? = some (.cells (jV j (.slice sa j.src.length sc) (.slice oa j.obj.length oc)) 40 (0, 0)) → Below V.heap.size V W → Calls Tryz.prog 12 #[.slice oa j.obj.length oc] W fun e w' => ∃ va vc, e = .returned (.slice va j.obj.length vc) ∧ Below V.heap.size V w' ∧ ((w'.cell? ⟨w.heap.size, 1, none⟩ = some (.slice (some ⟨q1, 0, none⟩) f.jobs.length l1)) ∧ w'.cell? ⟨wr.heap.size, 0, none⟩ = some (.slice sa j.src.length sc) ∧ w'.cell? ⟨wr.heap.size, 5, none⟩ = some (.slice oa j.obj.length oc) ∧ (∀ i, w'.frozen? ⟨q1, i, none⟩ = false) ∧ w'.cell? ⟨q1, P, none⟩ = some (.slice sa j.src.length sc) ∧ w'.cell? ⟨q1, P + 5, none⟩ = some (.slice oa j.obj.length oc) ∧ q1 < w'.heap.size ∧ w.heap.size < w'.heap.size ∧ wr.heap.size < w'.heap.size) ∧ Hid (Below W.heap.size W w' ∧ BK w' (.slice va j.obj.length vc) j.obj)) := fun V W hb1 hV hb2 => by
          refine (clone_bytes _ j.obj W ((hov.below (bnext hb1 hb2)).rb) hfj.2).mono ?_
          rintro e w' ⟨v, rfl, h1, h2⟩
          obtain ⟨va, vc, rfl⟩ := h1.slice
          exact ⟨va, vc, rfl, bnext hb2 h2, HFA.out V w' hb1 hV (bnext hb2 h2), h2, h1⟩
        have d1 := fblk_cell (i := 1) (v := .slice (some ⟨q1, 0, none⟩) f.jobs.length l1) hbx rfl
        have hzF := fblk_lt hbx
        have hzq := fblk_lt hcu
        have hFq : w.heap.size ≠ q1 := by
          intro e0
          rw [e0, hcu] at hbx
          injection hbx with hbx
          injection hbx with _ h5 _
          exact absurd h5 (by decide)
        have hjq : wr.heap.size ≠ q1 := by omega
        have HRS : Hid (∀ V W v1 v2, Below wr.heap.size wr V → Below V.heap.size V W → ResB w ((W.setCell ⟨q1, P, none⟩ v1).setCell ⟨q1, P + 5, none⟩ v2)) := fun V W v1 v2 hb1 hb2 => (((HRE.out.next hb1).next hb2).set (HRE.out.ne hcu (by decide)) _ _).set (HRE.out.ne hcu (by decide)) _ _
        clear hO hcu hrow hsv hov hj hbx hjj hfj hP
        obtain ⟨src, wk, tu, wa2, dn, ob, er, pl⟩ := j
        unfold jV at *
        simp only at *
        go_wp2_with fail
        obtain ⟨V, hV⟩ : ∃ V, V = wr.alloc (.cells #[.slice sa src.length sc, .int .i64 wk, .int .i64 tu, .int .i64 wa2, .bool dn, .slice oa ob.length oc, .int .i64 er, .int .i64 pl] 40) := ⟨_, rfl⟩
        have hVb : Below wr.heap.size wr V := by rw [hV]; exact oalloc _ _
        have hVn : V.heap[wr.heap.size]? = some (.cells #[.slice sa src.length sc, .int .i64 wk, .int .i64 tu, .int .i64 wa2, .bool dn, .slice oa ob.length oc, .int .i64 er, .int .i64 pl] 40 (0, 0)) := by rw [hV]; exact fblk_new _ _ _
        obtain ⟨y1, y2, y3, y4, y5, y6, y7, y8, y9⟩ := HFA.out V V hVb hVn (Below.refl _ _)
        have HC1 := Lib.hid fun W hW => HC1.out V W hVb hVn hW
        have HC2 := Lib.hid fun W hW => HC2.out V W hVb hVn hW
        have HFIN := Lib.hid fun W W' v1 v2 hW => HFIN.out V W W' v1 v2 P HP.out hVb hW
        have HJS := Lib.hid fun W hW => HJS.out V W hVb hW
        have HRS := Lib.hid fun W v1 v2 hW => HRS.out V W v1 v2 hVb hW
        have HVd : Hid (Below V.heap.size V V.drew) := (Below.refl _ _).drew
        rw [← hV]
        clear hV hVb hVn HFA e0 e1 e2 e3 e4 e5 e6 e7 d1
        refine wp_region_noPanic ?_
        refine wp_region_held_drew (S := fun W => W.cell? ⟨w.heap.size, 1, none⟩ = some (.slice (some ⟨q1, 0, none⟩) f.jobs.length l1) ∧ W.cell? ⟨wr.heap.size, 0, none⟩ = some (.slice sa src.length sc) ∧ W.cell? ⟨wr.heap.size, 5, none⟩ = some (.slice oa ob.length oc)) (by kernel_rfl) ⟨y1, y2, y3⟩ (fun hHeld => ?_)
        clear y1 y2 y3 y4 y5 y6 y7 y8 y9
        refine ftake_at 0 27 (v := ?_) rfl rfl (by kernel_rfl) (by kernel_rfl) (by kernel_rfl) (fun _ _ _ h => h) rfl ?_ hHeld ?_
        rotate_left
        · intro w0 hSw
          go_simp
          try with_reducible rfl
        simp only [List.setIfInBounds_toArray, List.set_cons_zero, List.set_cons_succ]
        refine ftake_at 1 28 (v := ?_) rfl rfl (by kernel_rfl) (by kernel_rfl) (by kernel_rfl) (fun _ _ _ h => h) rfl ?_ hHeld ?_
        rotate_left
        · intro w0 hSw
          have x1 := hSw.1
          go_simp
          try with_reducible rfl
        simp only [List.setIfInBounds_toArray, List.set_cons_zero, List.set_cons_succ]
        refine ftake_at 2 29 (v := ?_) rfl rfl (by kernel_rfl) (by kernel_rfl) (by kernel_rfl) (fun _ _ _ h => h) rfl ?_ hHeld ?_
        rotate_left
        · intro w0 hSw
          go_simp
          try with_reducible rfl
        simp only [List.setIfInBounds_toArray, List.set_cons_zero, List.set_cons_succ]
        refine ftake_at 6 33 (v := ?_) rfl rfl (by kernel_rfl) (by kernel_rfl) (by kernel_rfl) (fun _ _ _ h => h) rfl ?_ hHeld ?_
        rotate_left
        · intro w0 hSw
          go_simp
          try with_reducible rfl
        simp only [List.setIfInBounds_toArray, List.set_cons_zero, List.set_cons_succ]
        refine ftake_at 7 34 (v := ?_) rfl rfl (by kernel_rfl) (by kernel_rfl) (by kernel_rfl) (fun _ _ _ h => h) rfl ?_ hHeld ?_
        rotate_left
        · intro w0 hSw
          have x1 := hSw.2.1
          go_simp
          try with_reducible rfl
        simp only [List.setIfInBounds_toArray, List.set_cons_zero, List.set_cons_succ]
        refine ftake_at 9 36 (v := ?_) rfl rfl (by kernel_rfl) (by kernel_rfl) (by kernel_rfl) (fun _ _ _ h => h) rfl ?_ hHeld ?_
        rotate_left
        · intro w0 hSw
          go_simp
          try with_reducible rfl
        simp only [List.setIfInBounds_toArray, List.set_cons_zero, List.set_cons_succ]
        refine ftake_at 10 37 (v := ?_) rfl rfl (by kernel_rfl) (by kernel_rfl) (by kernel_rfl) (fun _ _ _ h => h) rfl ?_ hHeld ?_
        rotate_left
        · intro w0 hSw
          have x1 := hSw.2.2
          go_simp
          try with_reducible rfl
        simp only [List.setIfInBounds_toArray, List.set_cons_zero, List.set_cons_succ]
        refine ftake_at 3 30 (v := ?_) rfl rfl (by kernel_rfl) (by kernel_rfl) (by kernel_rfl) (fun _ _ _ h => h) rfl ?_ hHeld ?_
        rotate_left
        · intro w0 hSw
          go_simp
          try with_reducible rfl
        simp only [List.setIfInBounds_toArray, List.set_cons_zero, List.set_cons_succ]
        refine ftake_at 4 31 (v := ?_) rfl rfl (by kernel_rfl) (by kernel_rfl) (by kernel_rfl) (fun _ _ _ h => h) rfl ?_ hHeld ?_
        rotate_left
        · intro w0 hSw
          have x1 := hSw.1
          go_simp
          try with_reducible rfl
        simp only [List.setIfInBounds_toArray, List.set_cons_zero, List.set_cons_succ]
        refine ftake_at 5 32 (v := ?_) rfl rfl (by kernel_rfl) (by kernel_rfl) (by kernel_rfl) (fun _ _ _ h => h) rfl ?_ hHeld ?_
        rotate_left
        · intro w0 hSw
          go_simp
          try with_reducible rfl
        simp only [List.setIfInBounds_toArray, List.set_cons_zero, List.set_cons_succ]
        refine wpAnyH_ready (rs := [8]) (by kernel_rfl) (by simp) ?_
        refine AllReadyH.cons rfl (fun K hK => ?_) AllReadyH.nil
        go_simp
        refine (HC1.out _ HVd.out).mono ?_
        rintro e w1 ⟨va1, vc1, rfl, ok1, ⟨x1, x2, x3, x4, x5, x6, x7, x8, x9⟩, HB1⟩
        go_simp
        refine hK.out _ _ ⟨x1, x2, x3⟩ (fun hHeld => ?_)
        clear hK K HC1 x1 x2 x3 x4 x5 x6 x7 x8 x9
        refine wpAnyH_ready (rs := [11]) (by kernel_rfl) (by simp) ?_
        refine AllReadyH.cons rfl (fun K hK => ?_) AllReadyH.nil
        go_simp
        refine (HC2.out _ ok1).mono ?_
        rintro e w2 ⟨va2, vc2, rfl, ok2, ⟨x1, x2, x3, x4, x5, x6, x7, x8, x9⟩, HB2⟩
        go_simp
        refine hK.out _ _ ⟨x1, x2, x3⟩ (fun hHeld => ?_)
        clear hK K HC2
        refine ftake_at 12 39 (v := ?_) rfl rfl (by kernel_rfl) (by kernel_rfl) (by kernel_rfl) (fun _ _ _ h => h) rfl ?_ hHeld ?_
        rotate_left
        · intro w0 hSw
          go_simp
          try with_reducible rfl
        simp only [List.setIfInBounds_toArray, List.set_cons_zero, List.set_cons_succ]
        refine ftake_at 13 40 (v := ?_) rfl rfl (by kernel_rfl) (by kernel_rfl) (by kernel_rfl) (fun _ _ _ h => h) rfl ?_ hHeld ?_
        rotate_left
        · intro w0 hSw
          go_simp
          try with_reducible rfl
        simp only [List.setIfInBounds_toArray, List.set_cons_zero, List.set_cons_succ]
        have HFW := Lib.hid (HFIN.out w2 _ (.slice va1 src.length vc1) (.slice va2 ob.length vc2) ok2 (((HJS.out w2 ok2).set 0 (by decide) rfl (.slice va1 src.length vc1)).set 5 (by decide) rfl (.slice va2 ob.length vc2)) (HB1.out.2.below HB2.out.1) HB2.out.2)
        refine wpAnyH_ready (rs := [14]) (by kernel_rfl) (by simp) ?_
        refine AllReadyH.cons rfl (fun K hK => ?_) AllReadyH.nil
        go_simp
        have t1 := (World.cell?_of_block (a := ⟨w.heap.size, 1, none⟩) (Below.heap_setCell w2 ⟨q1, P, none⟩ (.slice va1 src.length vc1) _ hFq)).trans x1
        have t2 := (World.cell?_of_block (a := ⟨wr.heap.size, 0, none⟩) (Below.heap_setCell w2 ⟨q1, P, none⟩ (.slice va1 src.length vc1) _ hjq)).trans x2
        have t3 := (World.cell?_of_block (a := ⟨wr.heap.size, 5, none⟩) (Below.heap_setCell w2 ⟨q1, P, none⟩ (.slice va1 src.length vc1) _ hjq)).trans x3
        refine hK.out _ _ ⟨t1, t2, t3⟩ (fun hHeld => ?_)
        clear hK K
        refine ftake_at 15 41 (v := ?_) rfl rfl (by kernel_rfl) (by kernel_rfl) (by kernel_rfl) (fun _ _ _ h => h) rfl ?_ hHeld ?_
        rotate_left
        · intro w0 hSw
          go_simp
          try with_reducible rfl
        simp only [List.setIfInBounds_toArray, List.set_cons_zero, List.set_cons_succ]
        refine ftake_at 16 42 (v := ?_) rfl rfl (by kernel_rfl) (by kernel_rfl) (by kernel_rfl) (fun _ _ _ h => h) rfl ?_ hHeld ?_
        rotate_left
        · intro w0 hSw
          go_simp
          try with_reducible rfl
        simp only [List.setIfInBounds_toArray, List.set_cons_zero, List.set_cons_succ]
        refine wpAnyH_ready (rs := [17]) (by kernel_rfl) (by simp) ?_
        refine AllReadyH.cons rfl (fun K hK => ?_) AllReadyH.nil
        have u6 : (w2.setCell ⟨q1, P, none⟩ (.slice va1 src.length vc1)).cell? ⟨q1, P + 5, none⟩ = some (.slice oa ob.length oc) := by simp [go_sem, x6]
        have u4 : (w2.setCell ⟨q1, P, none⟩ (.slice va1 src.length vc1)).frozen? ⟨q1, P + 5, none⟩ = false := by simp [go_sem, x4]
        go_simp
        have t4 := (World.cell?_of_block (a := ⟨w.heap.size, 1, none⟩) (Below.heap_setCell (w2.setCell ⟨q1, P, none⟩ (.slice va1 src.length vc1)) ⟨q1, P + 5, none⟩ (.slice va2 ob.length vc2) _ hFq)).trans t1
        have t5 := (World.cell?_of_block (a := ⟨wr.heap.size, 0, none⟩) (Below.heap_setCell (w2.setCell ⟨q1, P, none⟩ (.slice va1 src.length vc1)) ⟨q1, P + 5, none⟩ (.slice va2 ob.length vc2) _ hjq)).trans t2
        have t6 := (World.cell?_of_block (a := ⟨wr.heap.size, 5, none⟩) (Below.heap_setCell (w2.setCell ⟨q1, P, none⟩ (.slice va1 src.length vc1)) ⟨q1, P + 5, none⟩ (.slice va2 ob.length vc2) _ hjq)).trans t3
        refine hK.out _ _ ⟨t4, t5, t6⟩ (fun hHeld => ?_)
        clear hK K
        refine wpAnyH_done (by kernel_rfl) ?_ _
        refine NoPanic.normal ?_
        go_wp2_with fail
        exact ⟨⟨k + 1, by omega, by go_num, HFW, HRS.out w2 _ _ ok2⟩, by simp [intOf]; omega⟩
      · have hk1 : ¬ (k : Int) < f.jobs.length := by omega
        obtain rfl : k = f.jobs.length := by omega
        obtain ⟨wv', hO⟩ := HF.out.own
        obtain ⟨wa', wc', rfl⟩ := hO.rows.way_shape
        have d3 := fblk_cell (i := 3) (v := .slice wa' f.way.length wc') hO.box rfl
        have hz := fblk_lt hO.box
        have HO2 : Hid (FO wr w.heap.size w.heap.size q1 l1 q2 l2 (.slice wa' f.way.length wc') f ∧ Below w.heap.size w wr ∧ ResB w wr) := ⟨hO, HOK.out.bel.trans HF.out.bel, HRE.out⟩
        clear hO
        go_wp2_with fail
        go_loopw [47] (fun i W => ∃ n : Nat, n ≤ f.way.length ∧ i = .int .i64 n ∧ Hid (FO W w.heap.size w.heap.size q1 l1 q2 l2 (.slice wa' f.way.length wc') f ∧ Below w.heap.size w W ∧ ResB w W)) (fun i _ => f.way.length - (intOf i).toNat)
        case atStart => exact ⟨0, Nat.zero_le _, rfl, HO2⟩
        case round =>
          obtain ⟨n, hn, rfl, HW2⟩ := hrel
          clear HO2 d3 hz HF
          obtain ⟨hO, hBl, hRe⟩ := HW2.out
          by_cases hlt2 : n < f.way.length
          · have hk2 : (n : Int) < f.way.length := by omega
            obtain ⟨xs, hx, hxl⟩ := hO.rows.way
            rcases id hx.2 with ⟨e0, h0⟩ | ⟨g, cap, cur, e0, hBg, hg, hnc, _⟩
            · omega
            injection e0 with e1 _ e3
            subst e1 e3
            obtain ⟨v, hv, hbv⟩ := hxl.2 n hlt2
            obtain ⟨va, vc, rfl⟩ := hbv.slice
            have cg : wr.cell? ⟨g, n, none⟩ = some (.slice va f.way[n].length vc) := by
              have := hx.cells (g := g) rfl n _ hv
              rwa [faddr, Nat.zero_add] at this
            have hzg := fblk_lt hg
            have hFg : w.heap.size ≠ g := by
              intro e0
              have hb := hO.box
              rw [e0, hg] at hb
              injection hb with hb
              injection hb with _ h5 _
              exact absurd h5 (by decide)
            have d3 := fblk_cell (i := 3) (v := .slice (some ⟨g, 0, none⟩) f.way.length wc') hO.box rfl
            have hz := fblk_lt hO.box
            have hfw := hfitw f.way[n] (List.getElem_mem _)
            have HCL : Hid (∀ W, Below wr.heap.size wr W → Calls Tryz.prog 12 #[.slice va f.way[n].length vc] W fun e w' => ∃ va' vc', e = .returned (.slice va' f.way[n].length vc') ∧ (w'.cell? ⟨w.heap.size, 3, none⟩ = some (.slice (some ⟨g, 0, none⟩) f.way.length wc')) ∧ (w'.cell? ⟨g, n, none⟩ = some (.slice va f.way[n].length vc)) ∧ (w'.frozen? ⟨g, n, none⟩ = false) ∧ g < w'.heap.size ∧ Hid (FO (w'.setCell ⟨g, n, none⟩ (.slice va' f.way[n].length vc')) w.heap.size w.heap.size q1 l1 q2 l2 (.slice (some ⟨g, 0, none⟩) f.way.length wc') f ∧ Below w.heap.size w (w'.setCell ⟨g, n, none⟩ (.slice va' f.way[n].length vc')) ∧ ResB w (w'.setCell ⟨g, n, none⟩ (.slice va' f.way[n].length vc')))) := fun W hW => by
              refine (clone_bytes _ f.way[n] W ((hbv.below hW).rb) hfw).mono ?_
              rintro e w' ⟨v', rfl, h1, h2⟩
              obtain ⟨va', vc', rfl⟩ := h1.slice
              have hb := bnext hW h2
              have hO' := hO.go hb
              have hx' := ownsRow_go hx hb (Nat.le_refl _)
              have hg' := (hb.block g hzg).trans hg
              have kf : KF w' (w'.setCell ⟨g, n, none⟩ (.slice va' f.way[n].length vc')) := KF.set hg' mine3 _
              refine ⟨va', vc', rfl, (hb.cell (by exact hz)).trans d3, (hb.cell (by exact hzg)).trans cg, fblk_froz hg', fblk_lt hg', ?_, (hBl.trans (hb.mono hBl.size)).setCell (p := ⟨g, n, none⟩) hBg _, (hRe.next hb).set (hRe.ne hg (by decide)) _ _⟩
              have hxk := hxl.keep (KF.of hb)
              refine hO'.setWay (xs := xs.set n (.slice va' f.way[n].length vc')) (hx'.stored n _).1 ?_ (fun {q c t z} hq h3 h4 => ?_) (by simp) ?_
              · refine ⟨by simpa using hxk.1, fun i hi => ?_⟩
                by_cases e : i = n
                · subst e
                  exact ⟨_, by rw [List.getElem?_set_self (by rw [hxk.1]; exact hi)], h1.keep kf⟩
                · obtain ⟨u, h5, h6⟩ := hxk.2 i hi
                  exact ⟨u, by rw [List.getElem?_set_ne (fun h => e h.symm)]; exact h5, h6.keep kf⟩
              · rw [Below.heap_setCell _ _ _ _ ?_]
                · exact hq
                · intro e0
                  have e0 : q = g := e0
                  subst e0
                  rw [hg'] at hq
                  injection hq with hq
                  injection hq with _ h5 _
                  exact h3 h5.symm
              · rw [Below.heap_setCell _ _ _ _ hFg]
                exact hO'.box
            clear hO hBl hRe hx hxl hv hbv hg hfw
            generalize f.way[n].length = ln at *
            go_wp2_with fail
            refine wp_region_noPanic ?_
            refine wp_region_held_drew (S := fun W => W.cell? ⟨w.heap.size, 3, none⟩ = some (.slice (some ⟨g, 0, none⟩) f.way.length wc')) (by kernel_rfl) d3 (fun hHeld => ?_)
            refine ftake_at 0 52 (v := ?_) rfl rfl (by kernel_rfl) (by kernel_rfl) (by kernel_rfl) (fun _ _ _ h => h) rfl ?_ hHeld ?_
            rotate_left
            · intro w0 hSw
              go_simp
              try with_reducible rfl
            simp only [List.setIfInBounds_toArray, List.set_cons_zero, List.set_cons_succ]
            refine ftake_at 1 53 (v := ?_) rfl rfl (by kernel_rfl) (by kernel_rfl) (by kernel_rfl) (fun _ _ _ h => h) rfl ?_ hHeld ?_
            rotate_left
            · intro w0 hSw
              have x1 := hSw
              go_simp
              try with_reducible rfl
            simp only [List.setIfInBounds_toArray, List.set_cons_zero, List.set_cons_succ]
            refine ftake_at 2 54 (v := ?_) rfl rfl (by kernel_rfl) (by kernel_rfl) (by kernel_rfl) (fun _ _ _ h => h) rfl ?_ hHeld ?_
            rotate_left
            · intro w0 hSw
              go_simp
              try with_reducible rfl
            simp only [List.setIfInBounds_toArray, List.set_cons_zero, List.set_cons_succ]
            refine ftake_at 3 55 (v := ?_) rfl rfl (by kernel_rfl) (by kernel_rfl) (by kernel_rfl) (fun _ _ _ h => h) rfl ?_ hHeld ?_
            rotate_left
            · intro w0 hSw
              go_simp
              try with_reducible rfl
            simp only [List.setIfInBounds_toArray, List.set_cons_zero, List.set_cons_succ]
            refine wpAnyH_ready (rs := [4]) (by kernel_rfl) (by simp) ?_
            refine AllReadyH.cons rfl (fun K hK => ?_) AllReadyH.nil
            go_simp
            refine (HCL.out _ (Below.refl _ _).drew).mono ?_
            rintro e w1 ⟨va', vc', rfl, x1, x2, x3, x4, HFO⟩
            go_simp
            refine hK.out _ _ x1 (fun hHeld => ?_)
            clear hK K HCL
            refine ftake_at 5 57 (v := ?_) rfl rfl (by kernel_rfl) (by kernel_rfl) (by kernel_rfl) (fun _ _ _ h => h) rfl ?_ hHeld ?_
            rotate_left
            · intro w0 hSw
              go_simp
              try with_reducible rfl
            simp only [List.setIfInBounds_toArray, List.set_cons_zero, List.set_cons_succ]
            refine wpAnyH_ready (rs := [6]) (by kernel_rfl) (by simp) ?_
            refine AllReadyH.cons rfl (fun K hK => ?_) AllReadyH.nil
            go_simp
            refine hK.out _ _ ((World.cell?_of_block (a := ⟨w.heap.size, 3, none⟩) (Below.heap_setCell w1 ⟨g, n, none⟩ (.slice va' ln vc') _ hFg)).trans x1) (fun hHeld => ?_)
            clear hK K
            refine wpAnyH_done (by kernel_rfl) ?_ _
            refine NoPanic.normal ?_
            go_wp2_with fail
            exact ⟨⟨n + 1, by omega, by go_num, HFO⟩, by simp [intOf]; omega⟩
          · have hk2 : ¬ (n : Int) < f.way.length := by omega
            have d0 := fblk_cell (i := 0) (v := .int .i64 f.base) hO.box rfl
            have d1 := fblk_cell (i := 1) (v := .slice (some ⟨q1, 0, none⟩) f.jobs.length l1) hO.box rfl
            have d2 := fblk_cell (i := 2) (v := .slice (some ⟨q2, 0, none⟩) f.dead.length l2) hO.box rfl
            have d3 := fblk_cell (i := 3) (v := .slice wa' f.way.length wc') hO.box rfl
            have hz := fblk_lt hO.box
            have HR2 := Lib.hid (And.intro hO.rows hBl)
            have r0 := fblk_cell (i := 0) (v := .int .i64 0) hRe rfl
            have r1 := fblk_cell (i := 1) (v := .slice none 0 0) hRe rfl
            have r2 := fblk_cell (i := 2) (v := .slice none 0 0) hRe rfl
            have r3 := fblk_cell (i := 3) (v := .slice none 0 0) hRe rfl
            have rf : ∀ i, wr.frozen? ⟨w.heap.size + 1, i, none⟩ = false := fun i => fblk_froz hRe
            have rz := fblk_lt hRe
            have HR3 : Hid (∀ v0 v1 v2 v3, FR ((((wr.setCell ⟨w.heap.size + 1, 0, none⟩ v0).setCell ⟨w.heap.size + 1, 1, none⟩ v1).setCell ⟨w.heap.size + 1, 2, none⟩ v2).setCell ⟨w.heap.size + 1, 3, none⟩ v3) w.heap.size q1 l1 q2 l2 (.slice wa' f.way.length wc') f ∧ Below w.heap.size w ((((wr.setCell ⟨w.heap.size + 1, 0, none⟩ v0).setCell ⟨w.heap.size + 1, 1, none⟩ v1).setCell ⟨w.heap.size + 1, 2, none⟩ v2).setCell ⟨w.heap.size + 1, 3, none⟩ v3)) := fun v0 v1 v2 v3 =>
              ⟨(((hO.rows.setFarm hRe 0 v0).setFarm (fblk_set hRe) 1 v1).setFarm (fblk_set (fblk_set hRe)) 2 v2).setFarm (fblk_set (fblk_set (fblk_set hRe))) 3 v3, (((hBl.setCell (p := ⟨w.heap.size + 1, 0, none⟩) (Nat.le_succ _) v0).setCell (p := ⟨w.heap.size + 1, 1, none⟩) (Nat.le_succ _) v1).setCell (p := ⟨w.heap.size + 1, 2, none⟩) (Nat.le_succ _) v2).setCell (p := ⟨w.heap.size + 1, 3, none⟩) (Nat.le_succ _) v3⟩
            clear hO hBl hRe HW2
            go_wp2_with fail
            refine bodyPost_ret (v := .agg #[.int .i64 f.base, .slice (some ⟨q1, 0, none⟩) f.jobs.length l1, .slice (some ⟨q2, 0, none⟩) f.dead.length l2, .slice wa' f.way.length wc']) (by simp [results, Tryz.results13, go_sem, r0, r1, r2, r3]) rfl ⟨q1, l1, q2, l2, _, rfl, (HR3.out _ _ _ _).1, (HR3.out _ _ _ _).2⟩

end Go.Proofs.YtbpoiajpcahdhaaGreatDoor.Wi
