/- The contracts of goals and of what it does with each half word. -/
import Derived.Test.YtgadpimknobljaaDoorDsE
namespace Go.Proofs.YtgadpimknobljaaDoor
open Go.RowKit Isa

theorem info4 : (Tryd.prog.info? 4).map (fun i => (i.zero, i.size, i.bytes)) = some (some (.bool false), 1, 1) := by kernel_rfl

/-- A row of bools. -/
def BRow (W : World) (g n : Nat) (B : Nat → Bool) : Prop := ∃ cs : Array Value, W.heap[g]? = some (.cells cs 4 (0, 0)) ∧ cs.size = n ∧ ∀ i, i < n → cs[i]? = some (.bool (B i))
theorem BRow.new (w : World) (n : Nat) {B : Nat → Bool} (h : ∀ i, B i = false) : BRow (w.alloc (.cells (madeCells #[.bool false] n) 4)) w.heap.size n B := by
  refine ⟨_, blk_new _ _ _, size_madeCells _ _, fun i hi => ?_⟩
  simp [madeCells, hi, Nat.mod_one, h]
theorem BRow.put {W : World} {g n k : Nat} {B B' : Nat → Bool} (h : BRow W g n B) (hk : k < n) (h1 : B' k = true) (h2 : ∀ i, i ≠ k → B' i = B i) : BRow (W.setCell ⟨g, k, none⟩ (.bool true)) g n B' := by
  obtain ⟨cs, hb, hs, hc⟩ := h
  refine ⟨_, _root_.Go.heap_setCell_same W g k cs 4 _ hb, by simpa using hs, fun i hi => ?_⟩
  by_cases h : k = i
  · subst h
    rw [Array.getElem?_setIfInBounds_self, if_pos (by omega), h1]
  · rw [Array.getElem?_setIfInBounds_ne h, hc i hi, h2 i (Ne.symm h)]
theorem BRow.cell {W : World} {g n : Nat} {B : Nat → Bool} (h : BRow W g n B) {i : Nat} (hi : i < n) : W.cell? ⟨g, i, none⟩ = some (.bool (B i)) ∧ W.frozen? ⟨g, i, none⟩ = false := by
  obtain ⟨cs, hb, hs, hc⟩ := h
  exact ⟨cell_of_block hb (hc i hi), blk_froz hb⟩
theorem BRow.go {W W' : World} {g n : Nat} {B : Nat → Bool} (h : BRow W g n B) (hb : W'.heap[g]? = W.heap[g]?) : BRow W' g n B := by
  obtain ⟨cs, h1, h2⟩ := h
  exact ⟨cs, hb.trans h1, h2⟩
theorem BRow.lt {W : World} {g n : Nat} {B : Nat → Bool} (h : BRow W g n B) : g < W.heap.size := by
  obtain ⟨cs, h1, h2⟩ := h
  exact (Array.getElem?_eq_some_iff.1 h1).1
theorem BRow.congr {W : World} {g n : Nat} {B B' : Nat → Bool} (h : BRow W g n B) (he : ∀ i, B' i = B i) : BRow W g n B' := by
  obtain rfl : B' = B := funext he
  exact h

theorem ledB_zero (bs : Nat → Int) (len k : Nat) : ledB bs len 0 k = false := rfl
theorem ledB_succ (bs : Nat → Int) (len n k : Nat) : ledB bs len (n + 1) k = (ledB bs len n k || (leadB bs len n && decide (goalOf bs n = 2 * k))) := by
  unfold ledB
  rw [List.range_succ, List.any_append]
  simp
theorem goal_even (bs : Nat → Int) (k : Nat) : goalOf bs k % 2 = 0 := by
  unfold goalOf toI
  split
  · omega
  · split <;> omega
theorem toB_zero : toB 0 = false := by decide
theorem told_goal {bs : Nat → Int} {len k : Nat} (h : toldB bs len k = true) (hb : toB (dV (halfW bs k) 0) = true) : 0 ≤ goalOf bs k ∧ goalOf bs k < len := by
  unfold toldB at h
  simp [hb] at h
  omega

/-- What goals keeps while half words are gone through: the box of its row at q, the row at g. -/
structure GI (bs : Nat → Int) (len : Nat) (w : World) (g q k : Nat) (W : World) : Prop where
  bel : Below w.heap.size w W
  ge : w.heap.size ≤ g
  box : W.heap[q]? = some (.cells #[.slice (some ⟨g, 0, none⟩) ((len + 1) / 2) ((len + 1) / 2)] 32 (0, 0))
  ne : q ≠ g
  row : BRow W g ((len + 1) / 2) (ledB bs len k)
theorem GI.next {bs : Nat → Int} {len : Nat} {w : World} {g q k : Nat} {W W' : World} (h : GI bs len w g q k W) (hb : Below W.heap.size W W') : GI bs len w g q k W' :=
  ⟨h.bel.trans (hb.mono h.bel.size), h.ge, (hb.block _ (Array.getElem?_eq_some_iff.1 h.box).1).trans h.box, h.ne, h.row.go (hb.block _ h.row.lt)⟩
theorem GI.skip {bs : Nat → Int} {len : Nat} {w : World} {g q k : Nat} {W : World} (h : GI bs len w g q k W) (hl : leadB bs len k = false) : GI bs len w g q (k + 1) W :=
  ⟨h.bel, h.ge, h.box, h.ne, h.row.congr fun i => by rw [ledB_succ, hl]; simp⟩
theorem GI.put {bs : Nat → Int} {len : Nat} {w : World} {g q k p : Nat} {W : World} (h : GI bs len w g q k W) (hl : leadB bs len k = true) (hp : goalOf bs k = 2 * p) (hlt : p < (len + 1) / 2) : GI bs len w g q (k + 1) (W.setCell ⟨g, p, none⟩ (.bool true)) :=
  ⟨h.bel.setCell h.ge _, h.ge, by rw [Below.heap_setCell _ _ _ _ (by exact h.ne)]; exact h.box, h.ne, h.row.put hlt (by rw [ledB_succ, hl, hp]; simp) fun i hi => by
    rw [ledB_succ, hl, hp]
    simp
    omega⟩

set_option maxHeartbeats 4000000 in
theorem goals1_any {bs : Nat → Int} {len : Nat} {w W : World} {g q k : Nat} (hD : DL w) (hf : len ≤ 1048576) (a : Int) (ha : a = 2 * k) (hk : 2 * k < len) (hI : GI bs len w g q k W) :
    Calls Tryd.prog 26 #[.int .i64 a, .agg #[.int .i64 (tV bs len k 0), .int .i64 (tV bs len k 1), .int .i64 (tV bs len k 2), .int .i64 (tV bs len k 3)], .bool (toldB bs len k), .pointer (some ⟨q, 0, none⟩)] W fun e W' => e = .returned (.tuple #[]) ∧ GI bs len w g q (k + 1) W' := by
  have HI := Lib.hid hI
  have HDL : Hid (∀ W', Below W.heap.size W W' → DL W') := fun W' hb => (hD.next hI.bel).next hb
  obtain ⟨_, _, _, _, _, b5, b6⟩ := dV_all (halfW bs k)
  by_cases htd : toldB bs len k = true
  · have e0 : tV bs len k 0 = dV (halfW bs k) 0 := by unfold tV; rw [if_pos htd]
    have e1 : tV bs len k 1 = dV (halfW bs k) 1 := by unfold tV; rw [if_pos htd]
    have e2 : tV bs len k 2 = dV (halfW bs k) 2 := by unfold tV; rw [if_pos htd]
    have e3 : tV bs len k 3 = dV (halfW bs k) 3 := by unfold tV; rw [if_pos htd]
    have HTO : Hid (∀ W', Below W.heap.size W W' → Calls Tryd.prog 7 #[.agg #[.int .i64 (dV (halfW bs k) 0), .int .i64 (dV (halfW bs k) 1), .int .i64 (dV (halfW bs k) 2), .int .i64 (dV (halfW bs k) 3)], .int .i64 a] W' fun e w' => e = .returned (.tuple #[.int .i64 (goalOf bs k), .bool (toB (dV (halfW bs k) 0))]) ∧ Below W'.heap.size W' w') := fun W' hb => by
      have := to_any (dV (halfW bs k) 0) (dV (halfW bs k) 1) (dV (halfW bs k) 2) (dV (halfW bs k) 3) a W' (HDL.out W' hb).laid (by omega) (by omega) b5 b6
      rw [ha] at this ⊢
      exact this
    have HLB : Hid (leadB bs len k = toB (dV (halfW bs k) 0)) := by unfold Hid leadB; rw [htd]; simp
    rw [htd, e0, e1, e2, e3]
    have HGO := Lib.hid (told_goal htd)
    have HEV := Lib.hid (goal_even bs k)
    have HPUT := Lib.hid (fun (W' : World) (h : GI bs len w g q k W') (p : Nat) => h.put (p := p))
    have HSK := Lib.hid (fun (W' : World) (h : GI bs len w g q k W') => h.skip)
    have HA := Lib.hid ha
    generalize leadB bs len k = lb at *
    generalize goalOf bs k = gl at *
    generalize dV (halfW bs k) 0 = d0 at *
    generalize dV (halfW bs k) 1 = d1 at *
    generalize dV (halfW bs k) 2 = d2 at *
    generalize dV (halfW bs k) 3 = d3 at *
    clear e0 e1 e2 e3 htd ha hI hD b5 b6
    by_cases htb : toB d0 = true
    · rw [htb] at HTO HLB HGO
      obtain ⟨g0, g1⟩ := HGO.out rfl
      obtain ⟨p, hp⟩ : ∃ p : Nat, gl = 2 * p := ⟨(gl / 2).toNat, by have := HEV.out; omega⟩
      have HP := Lib.hid hp
      have hpl : p < (len + 1) / 2 := by omega
      have hq : gl.tdiv 2 = p := by rw [hp]; exact Int.mul_tdiv_cancel_left _ (by omega)
      clear hp HGO HEV
      go_enter Tryd.func26, Tryd.ntmps26
      go_wp2_with (first | (go_at_call 7; refine (HTO.out _ (oalloc _ _)).mono ?_; rintro e W1 ⟨rfl, hb1⟩; have HI1 := Lib.hid ((HI.out.next (oalloc _ _)).next hb1); have c0 := cell_of_block (i := 0) HI1.out.box rfl; have c1 := (HI1.out.row.cell hpl).1; have f1 := (HI1.out.row.cell hpl).2; clear hb1) | fail)
      exact bodyPost_end (v := .tuple #[]) (by simp [results, Tryd.results26, go_sem]) rfl ⟨rfl, HPUT.out _ HI1.out p HLB.out HP.out hpl⟩
    · have htb' : toB d0 = false := by simpa using htb
      rw [htb'] at HTO HLB
      clear htb HGO HEV
      go_enter Tryd.func26, Tryd.ntmps26
      go_wp2_with (first | (go_at_call 7; refine (HTO.out _ (oalloc _ _)).mono ?_; rintro e W1 ⟨rfl, hb1⟩; have HI1 := Lib.hid ((HI.out.next (oalloc _ _)).next hb1); clear hb1) | fail)
      exact bodyPost_end (v := .tuple #[]) (by simp [results, Tryd.results26, go_sem]) rfl ⟨rfl, HSK.out _ HI1.out HLB.out⟩
  · have htd' : toldB bs len k = false := by simpa using htd
    have e : ∀ i, tV bs len k i = 0 := fun i => by unfold tV; rw [if_neg htd]
    have HLB : Hid (leadB bs len k = false) := by unfold Hid leadB; rw [htd']; rfl
    have HTO : Hid (∀ W', Below W.heap.size W W' → Calls Tryd.prog 7 #[.agg #[.int .i64 0, .int .i64 0, .int .i64 0, .int .i64 0], .int .i64 a] W' fun e w' => e = .returned (.tuple #[.int .i64 (toI 0 0 a), .bool (toB 0)]) ∧ Below W'.heap.size W' w') := fun W' hb =>
      to_any 0 0 0 0 a W' (HDL.out W' hb).laid (by omega) (by omega) (by omega) (by omega)
    rw [htd', e, e, e, e]
    have HSK := Lib.hid (fun (W' : World) (h : GI bs len w g q k W') => h.skip)
    clear e htd htd' ha hI hD b5 b6
    generalize leadB bs len k = lb at *
    generalize toI 0 0 a = gl at *
    generalize toB 0 = tb at *
    go_enter Tryd.func26, Tryd.ntmps26
    go_wp2_with (first | (go_at_call 7; refine (HTO.out _ (oalloc _ _)).mono ?_; rintro e W1 ⟨rfl, hb1⟩; have HI1 := Lib.hid ((HI.out.next (oalloc _ _)).next hb1); clear hb1) | fail)
    exact bodyPost_end (v := .tuple #[]) (by simp [results, Tryd.results26, go_sem]) rfl ⟨rfl, HSK.out _ HI1.out HLB.out⟩

set_option maxHeartbeats 4000000 in
theorem goals_any {w : World} {ad : Option Addr} {len cap : Nat} {bs : Nat → Int} (hD : DL w) (hR : BR w ad len bs) :
    Calls Tryd.prog 11 #[.slice ad len cap] w fun e w' => ∃ g, e = .returned (.slice (some ⟨g, 0, none⟩) ((len + 1) / 2) ((len + 1) / 2)) ∧ w.heap.size ≤ g ∧ Below w.heap.size w w' ∧ BRow w' g ((len + 1) / 2) (ledB bs len ((len + 1) / 2)) := by
  have hf := hR.few
  have hmk := run_make_row' (P := Tryd.prog) 32 4 (.bool false) 1 Tryd.underlying32 info4 rfl .i64 .i64 ((len + 1) / 2) (by omega) (by omega)
  have hq : ((len : Int) + 2 - 1).tdiv 2 = ((len + 1) / 2 : Nat) := by
    rw [Int.tdiv_eq_ediv_of_nonneg (by omega)]; omega
  have HEA := Lib.hid (fun (W : World) (g q : Nat) (hI : GI bs len w g q 0 W) => each_any (cap := cap) (w := W) hD hR 26 #[.pointer (some ⟨q, 0, none⟩)] (by intro args w; rfl) (fun k W => GI bs len w g q k W) (fun _ _ h => h.bel) (fun _ _ _ h hb => h.next hb) (fun k a W ha hk h => goals1_any hD hf a ha hk h) hI)
  clear hD hR
  have HR0 := Lib.hid (BRow.new w ((len + 1) / 2) (ledB_zero bs len))
  have HB0 := Lib.hid (oalloc w (.cells (madeCells #[.bool false] ((len + 1) / 2)) 4))
  have HGI : Hid (∀ W g q, GI bs len w g q 0 W ↔ GI bs len w g q 0 W) := fun _ _ _ => Iff.rfl
  have HMK : Hid (∀ (W : World) (g q : Nat), Below w.heap.size w W → w.heap.size ≤ g → W.heap[q]? = some (.cells #[.slice (some ⟨g, 0, none⟩) ((len + 1) / 2) ((len + 1) / 2)] 32 (0, 0)) → q ≠ g → BRow W g ((len + 1) / 2) (ledB bs len 0) → GI bs len w g q 0 W) := fun W g q h1 h2 h3 h4 h5 => ⟨h1, h2, h3, h4, h5⟩
  have HBX : Hid (∀ (W : World) (g q k : Nat), GI bs len w g q k W → W.heap[q]? = some (.cells #[.slice (some ⟨g, 0, none⟩) ((len + 1) / 2) ((len + 1) / 2)] 32 (0, 0))) := fun _ _ _ _ h => h.box
  have HRW : Hid (∀ (W : World) (g q k : Nat), GI bs len w g q k W → Below w.heap.size w W ∧ BRow W g ((len + 1) / 2) (ledB bs len k)) := fun _ _ _ _ h => ⟨h.bel, h.row⟩
  have hh : (len + 1) / 2 ≤ 1048577 := by omega
  clear HGI
  generalize (len + 1) / 2 = h at *
  have hh0 : wrap64 (h : Int) = h := by unfold wrap64; omega
  go_enter Tryd.func11, Tryd.ntmps11
  go_wp2_with fail
  have hbx : ((w.alloc (.cells (madeCells #[.bool false] h) 4)).alloc (.cells #[.slice (some ⟨w.heap.size, 0, none⟩) h h] 32)).heap[w.heap.size + 1]? = some (.cells #[.slice (some ⟨w.heap.size, 0, none⟩) h h] 32 (0, 0)) := by
    have := blk_new (w.alloc (.cells (madeCells #[.bool false] h) 4)) #[.slice (some ⟨w.heap.size, 0, none⟩) h h] 32
    simpa using this
  refine (HEA.out _ w.heap.size (w.heap.size + 1) (HMK.out _ _ _ (HB0.out.trans ((oalloc _ _).mono (by simp))) (Nat.le_refl _) hbx (by omega) (HR0.out.go ((oalloc _ _).block _ HR0.out.lt)))).mono ?_
  rintro e W ⟨rfl, hg⟩
  have c0 := cell_of_block (i := 0) (HBX.out _ _ _ _ hg) rfl
  have HX := Lib.hid (HRW.out _ _ _ _ hg)
  clear hg hbx hmk
  go_wp2
  go_ret
  exact ⟨w.heap.size, rfl, Nat.le_refl _, HX.out.1, HX.out.2⟩

end Go.Proofs.YtgadpimknobljaaDoor
