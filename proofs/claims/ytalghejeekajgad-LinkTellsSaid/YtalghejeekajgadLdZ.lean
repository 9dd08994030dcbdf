/- The program's own Link. -/
import Derived.Test.YtalghejeekajgadLdY
namespace Go.Proofs.Ytalghejeekajgad
open Go.RowKit Go.Maps Go.MapKept

theorem laying_at (p m : Value) (ad : Addr) (mb c1 c2 : Nat) (hp : p = .pointer (some ad)) (hm : m = .map (some mb)) (w : World) (h1 : w.heap.size = c1) (h2 : w.heap.size + 1 = c2) :
    Calls Try.prog 27 #[p, m] w fun e w' => e = .returned (.func (.func 45) #[] #[.pointer (some ⟨c1, 0, none⟩), .pointer (some ⟨c2, 0, none⟩)]) ∧ w' = (w.alloc (.cells #[p] 70)).alloc (.cells #[m] 66) := by
  subst h1 h2
  exact laying_any p m ad mb hp hm w
theorem telling_at (p m : Value) (ad : Addr) (mb d1 d2 : Nat) (hp : p = .pointer (some ad)) (hm : m = .map (some mb)) (w : World) (h1 : w.heap.size = d1) (h2 : w.heap.size + 1 = d2) :
    Calls Try.prog 28 #[p, m] w fun e w' => e = .returned (.func (.func 46) #[] #[.pointer (some ⟨d2, 0, none⟩), .pointer (some ⟨d1, 0, none⟩)]) ∧ w' = (w.alloc (.cells #[p] 70)).alloc (.cells #[m] 66) := by
  subst h1 h2
  exact telling_any p m ad mb hp hm w

theorem LP.start (wA : World) (base : Int) (a mb c1 c2 : Nat) (ha : wA.heap.size = a) (hm : wA.heap.size + 1 = mb) (h1 : wA.heap.size + 2 = c1) (h2 : wA.heap.size + 3 = c2) :
    LP wA ((((wA.alloc (.cells #[.int .i64 base, .slice none 0 0, .slice none 0 0] 38)).alloc (.map #[] 0)).alloc (.cells #[.pointer (some ⟨a, 0, none⟩)] 70)).alloc (.cells #[.map (some mb)] 66)) base [] [] (.slice none 0 0) (.slice none 0 0) mb c1 c2 (.map []) := by
  subst ha
  have e1 : (wA.alloc (.cells #[.int .i64 base, .slice none 0 0, .slice none 0 0] 38)).heap.size = mb := by rw [← hm]; simp
  have e2 : ((wA.alloc (.cells #[.int .i64 base, .slice none 0 0, .slice none 0 0] 38)).alloc (.map #[] 0)).heap.size = c1 := by rw [← h1]; simp
  have e3 : (((wA.alloc (.cells #[.int .i64 base, .slice none 0 0, .slice none 0 0] 38)).alloc (.map #[] 0)).alloc (.cells #[.pointer (some ⟨wA.heap.size, 0, none⟩)] 70)).heap.size = c2 := by rw [← h2]; simp
  have hlo := (((LO.new wA base).go (oalloc _ (.map #[] 0))).go (oalloc _ (.cells #[.pointer (some ⟨wA.heap.size, 0, none⟩)] 70))).go (oalloc _ (.cells #[.map (some mb)] 66))
  have hmp := ((World.ownsMap_made (H := Unit) (wA.alloc (.cells #[.int .i64 base, .slice none 0 0, .slice none 0 0] 38)) Try.prog 9 (plainElem Try.prog 3)).alloc (.cells #[.pointer (some ⟨wA.heap.size, 0, none⟩)] 70)).alloc (.cells #[.map (some mb)] 66)
  rw [e1] at hmp
  have hq1 := blk_new ((wA.alloc (.cells #[.int .i64 base, .slice none 0 0, .slice none 0 0] 38)).alloc (.map #[] 0)) #[.pointer (some ⟨wA.heap.size, 0, none⟩)] 70
  have hq2 := blk_new (((wA.alloc (.cells #[.int .i64 base, .slice none 0 0, .slice none 0 0] 38)).alloc (.map #[] 0)).alloc (.cells #[.pointer (some ⟨wA.heap.size, 0, none⟩)] 70)) #[.map (some mb)] 66
  rw [e2] at hq1
  rw [e3] at hq2
  exact ⟨hlo, hmp, PM.nil, by rw [(oalloc _ _).block _ (Array.getElem?_eq_some_iff.1 hq1).1]; exact hq1, hq2, by omega⟩

/-- How far the passes are. -/
def LStep (wA : World) (l : List Ob) (base : Int) (mb c1 c2 d1 d2 F k : Nat) (W : World) : Prop :=
  W.heap[F]? = some (.cells #[.func (.func 26) #[] #[], .func (.func 45) #[] #[.pointer (some ⟨c1, 0, none⟩), .pointer (some ⟨c2, 0, none⟩)], .func (.func 46) #[] #[.pointer (some ⟨d2, 0, none⟩), .pointer (some ⟨d1, 0, none⟩)]] 68 (0, 0)) ∧ W.heap[d1]? = some (.cells #[.pointer (some ⟨wA.heap.size, 0, none⟩)] 70 (0, 0)) ∧ W.heap[d2]? = some (.cells #[.map (some mb)] 66 (0, 0)) ∧
  ((k = 0 ∧ I1 wA l base mb c1 c2 0 W) ∨ (k = 1 ∧ wrongAt nameR 0 l = none ∧ I1 wA l base mb c1 c2 0 W) ∨ (k = 2 ∧ wrongAt nameR 0 l = none ∧ I1 wA l base mb c1 c2 l.length W) ∨
   (k = 3 ∧ wrongAt nameR 0 l = none ∧ ∃ b s bv sv D, layL base 0 [] [] (l.zip (basesL base l)) = .ok (b, s) ∧ I2 wA l base b s bv sv D mb d1 d2 l.length W))
theorem LStep.bel {wA : World} {l : List Ob} {base : Int} {mb c1 c2 d1 d2 F k : Nat} {W : World} (h : LStep wA l base mb c1 c2 d1 d2 F k W) : Below wA.heap.size wA W := by
  rcases h.2.2.2 with ⟨_, b, s, bv, sv, D, hp, _⟩ | ⟨_, _, b, s, bv, sv, D, hp, _⟩ | ⟨_, _, b, s, bv, sv, D, hp, _⟩ | ⟨_, _, b, s, bv, sv, D, _, c, hp, _⟩
  · exact hp.lo.bel
  · exact hp.lo.bel
  · exact hp.lo.bel
  · exact hp.lo.bel
theorem I1.go {wA : World} {l : List Ob} {base : Int} {mb c1 c2 k : Nat} {W W' : World} (h : I1 wA l base mb c1 c2 k W) (hb : Below W.heap.size W W') : I1 wA l base mb c1 c2 k W' := by
  obtain ⟨b, s, bv, sv, D, hp, h⟩ := h
  exact ⟨b, s, bv, sv, D, hp.go hb, h⟩
theorem I2.go {wA : World} {l : List Ob} {base : Int} {b : List UInt8} {s : List Sy} {bv sv : Value} {D : DataW Unit} {mb c1 c2 k : Nat} {W W' : World} (h : I2 wA l base b s bv sv D mb c1 c2 k W) (hb : Below W.heap.size W W') : I2 wA l base b s bv sv D mb c1 c2 k W' := by
  obtain ⟨c, hp, h⟩ := h
  exact ⟨c, hp.go hb, h⟩
/-- What is laid: behind it the relocs are asked. -/
theorem I1.done {wA : World} {l : List Ob} {base : Int} {mb c1 c2 d1 d2 : Nat} {W : World} (h : I1 wA l base mb c1 c2 l.length W) (h1 : W.heap[d1]? = some (.cells #[.pointer (some ⟨wA.heap.size, 0, none⟩)] 70 (0, 0))) (h2 : W.heap[d2]? = some (.cells #[.map (some mb)] 66 (0, 0))) :
    ∃ b s bv sv D, layL base 0 [] [] (l.zip (basesL base l)) = .ok (b, s) ∧ (b.length : Int) = endL base l - base ∧ I2 wA l base b s bv sv D mb d1 d2 0 W := by
  obtain ⟨b, s, bv, sv, D, hp, hbl, _, hE⟩ := h
  rw [List.take_length] at hbl
  rw [layL_end (Nat.le_refl _)] at hE
  exact ⟨b, s, bv, sv, D, hE, hbl, b, ⟨hp.lo, hp.mp, hp.pm, h1, h2, hp.ne⟩, rfl, rfl⟩

theorem out_len {W : World} {base : Nat} {v : Value} {l : List UInt8} (h : Out W base v l) : l.length ≤ maxLen := by
  rcases h.1.2 with ⟨_, h0⟩ | ⟨g, cap, cur, _, _, _, h1, h2, _⟩
  · omega
  · omega
theorem pick_ok {x a : Int} {A : Prop} {B : Int → Nat → Prop} (h : (x = 0 ∧ a = 0 ∧ A) ∨ (x ≠ 0 ∧ ∃ k : Nat, a = k ∧ B x k)) (hn : ∀ x k, ¬ B x k) : x = 0 ∧ a = 0 ∧ A := by
  rcases h with h | ⟨_, k, _, h⟩
  · exact h
  · exact absurd h (hn x k)
theorem pick_err {x a : Int} {A : Prop} {B : Int → Nat → Prop} (h : (x = 0 ∧ a = 0 ∧ A) ∨ (x ≠ 0 ∧ ∃ k : Nat, a = k ∧ B x k)) (hn : ¬ A) {x0 : Int} {k0 : Nat} (hb : ∀ x k, B x k → x = x0 ∧ k = k0) : x0 = x ∧ a = (k0 : Int) := by
  rcases h with ⟨_, _, h⟩ | ⟨_, k, ha, h⟩
  · exact absurd h hn
  · obtain ⟨h1, h2⟩ := hb x k h
    subst h2
    exact ⟨h1.symm, ha⟩
theorem symErr_ne {nm : List UInt8 → Bool} {o : Ob} : wrongO nm o = 0 ∨ wrongO nm o ≠ 0 := by omega
theorem wrongAt_ne {nm : List UInt8 → Bool} : ∀ (l : List Ob) (i : Nat) {x : Int} {k : Nat}, wrongAt nm i l = some (x, k) → ¬ x = 0
  | [], _, _, _, h => by cases h
  | o :: r, i, x, k, h => by
    unfold wrongAt at h
    split at h
    · exact wrongAt_ne r (i + 1) h
    · injection h with h
      injection h with h1 h2
      subst h1
      assumption
theorem layL_err (base : Int) : ∀ (zs : List (Ob × Int)) (i : Nat) (b : List UInt8) (s : List Sy) {x : Int} {k : Nat}, layL base i b s zs = .error (x, k) → x = 7
  | [], _, _, _, _, _, h => by cases h
  | (o, a) :: r, i, b, s, x, k, h => by
    unfold layL at h
    split at h
    · injection h with h
      injection h with h1 h2
      exact h1.symm
    · exact layL_err base r _ _ _ h
theorem putRels_ne {s : List Sy} {base a : Int} : ∀ (l : List Re) (b : List UInt8) {x : Int}, putRels s base a b l = .error x → ¬ x = 0
  | [], _, _, h => by cases h
  | r :: l, b, x, h => by
    unfold putRels at h
    split at h
    · rename_i e he
      injection h with h
      subst h
      unfold putRel at he
      simp only at he
      generalize (if r.name = [] then a else whereL r.name s) = p at he
      split at he
      · injection he with he; omega
      · split at he
        · injection he with he; omega
        · cases he
    · exact putRels_ne l _ h
theorem relL_ne {s : List Sy} {base : Int} : ∀ (zs : List (Ob × Int)) (i : Nat) (b : List UInt8) {x : Int} {k : Nat}, relL s base i b zs = .error (x, k) → ¬ x = 0
  | [], _, _, _, _, h => by cases h
  | (o, a) :: r, i, b, x, k, h => by
    unfold relL at h
    split at h
    · rename_i e he
      injection h with h
      injection h with h1 h2
      subst h1
      exact putRels_ne _ _ he
    · exact relL_ne r _ _ h
theorem I1.not_err {wA W : World} {l : List Ob} {base : Int} {mb c1 c2 : Nat} {e : Int × Nat} (h : layL base 0 [] [] (l.zip (basesL base l)) = .error e) : ¬ I1 wA l base mb c1 c2 l.length W := by
  rintro ⟨b, s, bv, sv, D, _, _, _, hE⟩
  rw [h, layL_end (Nat.le_refl _)] at hE
  cases hE
theorem I2.not_err {wA W : World} {l : List Ob} {base : Int} {b : List UInt8} {s : List Sy} {bv sv : Value} {D : DataW Unit} {mb c1 c2 : Nat} {e : Int × Nat} (h : relL s base 0 b (l.zip (basesL base l)) = .error e) : ¬ I2 wA l base b s bv sv D mb c1 c2 l.length W := by
  rintro ⟨c, _, _, hE⟩
  rw [h, relL_end (Nat.le_refl _)] at hE
  cases hE

set_option maxRecDepth 100000 in
set_option maxHeartbeats 8000000 in
theorem link_any (l : List Ob) (v : Value) (base : Int) (w : World) (hv : OObs w v l) (hnl : ∀ o, o ∈ l → ∀ x, x ∈ o.syms → x.name.length ≤ maxLen) :
    Calls Try.prog 10 #[v, .int .i64 base] w fun e w' => LinkEnd w base (linkL nameR l base) e w' := by
  obtain ⟨ad, cap, rfl, hm, hc⟩ := id hv
  have HV := Lib.hid hv
  have HNL := Lib.hid hnl
  unfold maxLen at hm
  clear hc hv hnl
  have hmm := @run_makeMap Try.prog
  go_enter Try.func10, Try.ntmps10
  by_cases hbase : base < 0 ∨ 1048576 < base ∨ base % 4 ≠ 0
  · have HX : Hid (linkL nameR l base = .error (3, 0)) := by unfold Hid linkL; rw [if_pos hbase]
    by_cases h0 : base < 0
    · clear hbase
      go_wp2_with fail
      refine bodyPost_ret (v := .tuple #[.agg #[.int .i64 0, .slice none 0 0, .slice none 0 0], .agg #[.int .i64 3, .int .i64 0]]) (by simp [results, Try.results10, go_sem]) rfl ?_
      exact ⟨((Below.refl _ _).alloc (Nat.le_refl _) _).alloc (by simp) _, by rw [HX.out]; rfl⟩
    · by_cases h1 : 1048576 < base
      · clear hbase
        go_wp2_with fail
        refine bodyPost_ret (v := .tuple #[.agg #[.int .i64 0, .slice none 0 0, .slice none 0 0], .agg #[.int .i64 3, .int .i64 0]]) (by simp [results, Try.results10, go_sem]) rfl ?_
        exact ⟨((Below.refl _ _).alloc (Nat.le_refl _) _).alloc (by simp) _, by rw [HX.out]; rfl⟩
      · have h3 : (base % 4 != 0) = true := by simp; omega
        clear hbase
        go_wp2_with fail
        refine bodyPost_ret (v := .tuple #[.agg #[.int .i64 0, .slice none 0 0, .slice none 0 0], .agg #[.int .i64 3, .int .i64 0]]) (by simp [results, Try.results10, go_sem]) rfl ?_
        exact ⟨((Below.refl _ _).alloc (Nat.le_refl _) _).alloc (by simp) _, by rw [HX.out]; rfl⟩
  · have h0 : ¬ base < 0 := by omega
    have h1 : ¬ 1048576 < base := by omega
    have h3 : (base % 4 != 0) = false := by simp; omega
    have HX0 : Hid (linkL nameR l base = if l.length = 0 ∨ 4 < l.length then .error (5, 0) else linkM nameR l base) := by unfold Hid; rw [linkL, if_neg hbase]
    clear hbase
    by_cases hn : l.length = 0 ∨ 4 < l.length
    · have HX : Hid (linkL nameR l base = .error (5, 0)) := by unfold Hid; rw [HX0.out, if_pos hn]
      by_cases hn0 : l.length = 0
      · obtain rfl : l = [] := List.length_eq_zero_iff.1 hn0
        simp only [List.length_nil] at *
        clear hn
        go_wp2_with fail
        refine bodyPost_ret (v := .tuple #[.agg #[.int .i64 0, .slice none 0 0, .slice none 0 0], .agg #[.int .i64 5, .int .i64 0]]) (by simp [results, Try.results10, go_sem]) rfl ?_
        exact ⟨((Below.refl _ _).alloc (Nat.le_refl _) _).alloc (by simp) _, by rw [HX.out]; rfl⟩
      · have hn1 : ¬ (l.length : Int) = 0 := by omega
        have hn2 : (4 : Int) < l.length := by omega
        clear hn
        go_wp2_with fail
        refine bodyPost_ret (v := .tuple #[.agg #[.int .i64 0, .slice none 0 0, .slice none 0 0], .agg #[.int .i64 5, .int .i64 0]]) (by simp [results, Try.results10, go_sem]) rfl ?_
        exact ⟨((Below.refl _ _).alloc (Nat.le_refl _) _).alloc (by simp) _, by rw [HX.out]; rfl⟩
    · have hn1 : ¬ (l.length : Int) = 0 := by omega
      have hn2 : ¬ (4 : Int) < l.length := by omega
      have hn3 : ¬ l.length = 0 := by omega
      have HX1 := Lib.hid (HX0.out.trans (if_neg hn))
      have hn4 : l.length ≤ 4 := by omega
      have hb0 : 0 ≤ base := by omega
      have hb1 : base ≤ 1048576 := by omega
      clear HX0 hn
      obtain ⟨wA, hwA⟩ : ∃ wA, wA = (w.alloc (.cells #[.int .i64 0, .slice none 0 0, .slice none 0 0] 38)).alloc (.cells #[.int .i64 0, .int .i64 0] 40) := ⟨_, rfl⟩
      have HL0 : Hid (LB w wA) := by unfold Hid; rw [hwA]; exact LB.new w
      have hzA : wA.heap.size = w.heap.size + 1 + 1 := by rw [hwA]; simp
      have HZA := Lib.hid hzA
      obtain ⟨c1, hc1⟩ : ∃ c1, c1 = w.heap.size + 4 := ⟨_, rfl⟩
      obtain ⟨c2, hc2⟩ : ∃ c2, c2 = w.heap.size + 5 := ⟨_, rfl⟩
      obtain ⟨d1, hd1⟩ : ∃ d1, d1 = w.heap.size + 6 := ⟨_, rfl⟩
      obtain ⟨d2, hd2⟩ : ∃ d2, d2 = w.heap.size + 7 := ⟨_, rfl⟩
      have HN := Lib.hid (And.intro hc1 (And.intro hc2 (And.intro hd1 hd2)))
      have HS5 : Hid (∀ w5, w5 = (((((w.alloc (.cells #[.int .i64 0, .slice none 0 0, .slice none 0 0] 38)).alloc (.cells #[.int .i64 0, .int .i64 0] 40)).alloc (.cells #[.int .i64 base, .slice none 0 0, .slice none 0 0] 38)).alloc (.map #[] 0)).alloc (.cells #[.pointer (some ⟨w.heap.size + 1 + 1, 0, none⟩)] 70)).alloc (.cells #[.map (some (w.heap.size + 1 + 1 + 1))] 66) → LP wA w5 base [] [] (.slice none 0 0) (.slice none 0 0) (w.heap.size + 1 + 1 + 1) c1 c2 (.map []) ∧ w5.heap.size = d1) := fun w5 h5 => by
        rw [← hwA] at h5
        rw [h5]
        exact ⟨LP.start wA base _ _ c1 c2 hzA (by omega) (by omega) (by omega), by simp; omega⟩
      have HS6 : Hid (∀ w5 w6, w6 = (w5.alloc (.cells #[.pointer (some ⟨w.heap.size + 1 + 1, 0, none⟩)] 70)).alloc (.cells #[.map (some (w.heap.size + 1 + 1 + 1))] 66) → LP wA w5 base [] [] (.slice none 0 0) (.slice none 0 0) (w.heap.size + 1 + 1 + 1) c1 c2 (.map []) → w5.heap.size = d1 →
          LP wA w6 base [] [] (.slice none 0 0) (.slice none 0 0) (w.heap.size + 1 + 1 + 1) c1 c2 (.map []) ∧ w6.heap[d1]? = some (.cells #[.pointer (some ⟨wA.heap.size, 0, none⟩)] 70 (0, 0)) ∧ w6.heap[d2]? = some (.cells #[.map (some (w.heap.size + 1 + 1 + 1))] 66 (0, 0))) := fun w5 w6 h6 hp h5 => by
        have q1 := blk_new w5 #[.pointer (some ⟨w.heap.size + 1 + 1, 0, none⟩)] 70
        have q2 := blk_new (w5.alloc (.cells #[.pointer (some ⟨w.heap.size + 1 + 1, 0, none⟩)] 70)) #[.map (some (w.heap.size + 1 + 1 + 1))] 66
        have e2 : (w5.alloc (.cells #[.pointer (some ⟨w.heap.size + 1 + 1, 0, none⟩)] 70)).heap.size = d2 := by simp; omega
        rw [e2, ← h6] at q2
        have q3 := ((oalloc (w5.alloc (.cells #[.pointer (some ⟨w.heap.size + 1 + 1, 0, none⟩)] 70)) (.cells #[.map (some (w.heap.size + 1 + 1 + 1))] 66)).block _ (Array.getElem?_eq_some_iff.1 q1).1).trans q1
        rw [← h6, h5] at q3
        refine ⟨?_, by rw [hzA]; exact q3, q2⟩
        rw [h6]
        exact (hp.go (oalloc _ _)).go (oalloc _ _)
      clear hc1 hc2 hd1 hd2 hwA hzA
      go_wp2_with (first | (go_at_call 27; refine (laying_at _ _ _ _ c1 c2 rfl rfl _ (by have := HN.out; simp; omega) (by have := HN.out; simp; omega)).mono ?_; rintro e w5 ⟨rfl, hw5⟩; obtain ⟨hp5, hz5⟩ := HS5.out w5 hw5; have HP5 := Lib.hid hp5; have HZ5 := Lib.hid hz5; clear hw5 hp5 hz5 HS5) | (go_at_call 28; refine (telling_at _ _ _ _ d1 d2 rfl rfl _ HZ5.out (by have := HN.out; have := HZ5.out; omega)).mono ?_; rintro e w6 ⟨rfl, hw6⟩; obtain ⟨hp6, hq6, hr6⟩ := HS6.out w5 w6 hw6 HP5.out HZ5.out; have HP6 := Lib.hid hp6; have HQ6 := Lib.hid hq6; have HR6 := Lib.hid hr6; clear hw6 hp6 hq6 hr6 HS6 HP5 HZ5) | fail)
      have HT : Hid (LStep wA l base (w.heap.size + 1 + 1 + 1) c1 c2 d1 d2 w6.heap.size 0 (w6.alloc (.cells #[.func (.func 26) #[] #[], .func (.func 45) #[] #[.pointer (some ⟨c1, 0, none⟩), .pointer (some ⟨c2, 0, none⟩)], .func (.func 46) #[] #[.pointer (some ⟨d2, 0, none⟩), .pointer (some ⟨d1, 0, none⟩)]] 68))) := by
        have hb : Below w6.heap.size w6 (w6.alloc (.cells #[.func (.func 26) #[] #[], .func (.func 45) #[] #[.pointer (some ⟨c1, 0, none⟩), .pointer (some ⟨c2, 0, none⟩)], .func (.func 46) #[] #[.pointer (some ⟨d2, 0, none⟩), .pointer (some ⟨d1, 0, none⟩)]] 68)) := oalloc _ _
        refine ⟨blk_new _ _ _, (hb.block _ (Array.getElem?_eq_some_iff.1 HQ6.out).1).trans HQ6.out, (hb.block _ (Array.getElem?_eq_some_iff.1 HR6.out).1).trans HR6.out, .inl ⟨rfl, [], [], _, _, _, HP6.out.go hb, by simp [endL], by simp, rfl⟩⟩
      clear HP6 HQ6 HR6 hmm
      go_loopw [43] (fun i W => ∃ k : Nat, k ≤ 3 ∧ i = .int .i64 k ∧ Hid (LStep wA l base (w.heap.size + 1 + 1 + 1) c1 c2 d1 d2 w6.heap.size k W)) (fun i _ => 3 - (intOf i).toNat)
      case atStart => exact ⟨0, by decide, rfl, HT⟩
      case round =>
        obtain ⟨k, hk, rfl, HI⟩ := hrel
        clear HT
        have HLW := Lib.hid (HL0.out.go HI.out.bel)
        have HVW := Lib.hid ((HV.out.below HL0.out.bel (Nat.le_refl _)).below HI.out.bel (Nat.le_refl _))
        have HVA := Lib.hid (HV.out.below HL0.out.bel (Nat.le_refl _))
        have HF := Lib.hid HI.out.1
        have HD1 := Lib.hid HI.out.2.1
        have HD2 := Lib.hid HI.out.2.2.1
        have hzF : w6.heap.size < wr.heap.size := (Array.getElem?_eq_some_iff.1 HF.out).1
        rcases HI.out.2.2.2 with ⟨rfl, hi⟩ | ⟨rfl, hwn, hi⟩ | ⟨rfl, hwn, hi⟩ | ⟨rfl, hwn, hi⟩
        · have fc : wr.cell? ⟨w6.heap.size, 0, none⟩ = some (.func (.func 26) #[] #[]) := blk_cell HF.out rfl
          have HE := Lib.hid (pass0_any l (.slice ad l.length cap) base wr HVW.out hb0 hb1 hn4 HNL.out)
          have HI0 := Lib.hid hi
          clear hi
          cases hwn : wrongAt nameR 0 l with
          | none =>
            have HWN := Lib.hid hwn
            have HNO : Hid (∀ (x : Int) (k : Nat), ¬ wrongAt nameR 0 l = some (x, k)) := fun x k h => by rw [hwn] at h; cases h
            clear hwn
            go_wp2_with (first | (go_at_call 29; refine HE.out.mono ?_; rintro e w7 ⟨hb7, x, a, rfl, h7⟩; obtain ⟨rfl, rfl, _⟩ := pick_ok h7 HNO.out; have HK7 := Lib.hid (KeepT.of hb7); have HI7 := Lib.hid (HI0.out.go hb7); have HL7 := Lib.hid (HLW.out.go hb7); clear hb7 h7) | fail)
            exact ⟨⟨1, by decide, by go_num, ⟨(HK7.out.trans (KeepT.of (oalloc _ _))).2 _ _ _ _ HF.out (by decide) (by decide) (by decide), (HK7.out.trans (KeepT.of (oalloc _ _))).2 _ _ _ _ HD1.out (by decide) (by decide) (by decide), (HK7.out.trans (KeepT.of (oalloc _ _))).2 _ _ _ _ HD2.out (by decide) (by decide) (by decide), .inr (.inl ⟨rfl, HWN.out, HI7.out.go (oalloc _ _)⟩)⟩⟩, by simp [intOf]⟩
          | some xk =>
            obtain ⟨x0, k0⟩ := xk
            have hx0 : ¬ x0 = 0 := wrongAt_ne l 0 hwn
            have HNO : Hid (¬ wrongAt nameR 0 l = none) := fun h => by rw [hwn] at h; cases h
            have HEQ : Hid (∀ (x : Int) (k : Nat), wrongAt nameR 0 l = some (x, k) → x = x0 ∧ k = k0) := fun x k h => by rw [hwn] at h; cases h; exact ⟨rfl, rfl⟩
            have HX : Hid (linkL nameR l base = .error (x0, k0)) := by unfold Hid; rw [HX1.out, linkM, hwn]
            go_wp2_with (first | (go_at_call 29; refine HE.out.mono ?_; rintro e w7 ⟨hb7, x, a, rfl, h7⟩; obtain ⟨rfl, rfl⟩ := pick_err h7 HNO.out HEQ.out; have HL7 := Lib.hid (HLW.out.go hb7); clear hb7 h7) | fail)
            obtain ⟨V, hV⟩ : ∃ V, V = w7.alloc (.cells #[.int .i64 x0, .int .i64 (k0 : Int)] 40) := ⟨_, rfl⟩
            have HB : Hid (V.heap[w7.heap.size]? = some (.cells #[.int .i64 x0, .int .i64 (k0 : Int)] 40 (0, 0))) := by unfold Hid; rw [hV]; exact blk_new _ _ _
            have HLV := Lib.hid (HL7.out.go (w' := V) (by rw [hV]; exact oalloc _ _))
            rw [← hV]
            have hbS := HB.out
            refine wp_region_noPanic ?_
            refine wp_region_held_drew (S := fun X => X.heap[w7.heap.size]? = some (.cells #[.int .i64 x0, .int .i64 (k0 : Int)] 40 (0, 0))) (by kernel_rfl) hbS (fun hHeld => ?_)
            obtain ⟨V0, hV0⟩ : ∃ X, X = V.drew := ⟨_, rfl⟩
            have HL8 := Lib.hid (HLV.out.go (w' := V0) (by rw [hV0]; exact (Below.refl _ _).drew))
            rw [← hV0] at hHeld ⊢
            have hz7 := HL7.out.lt
            clear hV hV0 hbS HLV HB
            refine take_at 0 54 (v := ?_) rfl rfl (by kernel_rfl) (by kernel_rfl) (by kernel_rfl) (fun _ _ _ h => h) rfl ?_ hHeld ?_
            rotate_left
            · intro w hSw
              go_simp
              try with_reducible rfl
            simp only [List.setIfInBounds_toArray, List.set_cons_zero, List.set_cons_succ]
            refine take_at 1 55 (v := ?_) rfl rfl (by kernel_rfl) (by kernel_rfl) (by kernel_rfl) (fun _ _ _ h => h) rfl ?_ hHeld ?_
            rotate_left
            · intro w hSw
              have x0 := cell_of_block (i := 0) hSw rfl
              have x1 := cell_of_block (i := 1) hSw rfl
              go_simp
              try with_reducible rfl
            simp only [List.setIfInBounds_toArray, List.set_cons_zero, List.set_cons_succ]
            refine wpAnyH_ready (rs := [2]) (by kernel_rfl) (by simp) ?_
            refine AllReadyH.cons rfl (fun K hK => ?_) AllReadyH.nil
            obtain ⟨n0, n1, n2, n3, n4, f0, f1, f2, f3, f4⟩ := HL8.out.cells
            have hz8 := HL8.out.lt
            go_simp
            refine hK.out _ _ (by rw [Below.heap_setCell _ _ _ _ (by show w7.heap.size ≠ w.heap.size; omega), Below.heap_setCell _ _ _ _ (by show w7.heap.size ≠ w.heap.size; omega), Below.heap_setCell _ _ _ _ (by show w7.heap.size ≠ w.heap.size; omega)]; exact hHeld) (fun hHeld => ?_)
            clear hK K
            refine wpAnyH_ready (rs := [3]) (by kernel_rfl) (by simp) ?_
            refine AllReadyH.cons rfl (fun K hK => ?_) AllReadyH.nil
            go_simp
            refine hK.out _ _ (by rw [Below.heap_setCell _ _ _ _ (by show w7.heap.size ≠ w.heap.size + 1; omega), Below.heap_setCell _ _ _ _ (by show w7.heap.size ≠ w.heap.size + 1; omega)]; exact hHeld) (fun _ => ?_)
            clear hK K hHeld
            refine wpAnyH_done (by kernel_rfl) ?_ _
            refine NoPanic.normal ?_
            go_wp2_with fail
            refine bodyPost_ret (v := .tuple #[.agg #[.int .i64 0, .slice none 0 0, .slice none 0 0], .agg #[.int .i64 x0, .int .i64 (k0 : Int)]]) (by simp [results, Try.results10, go_sem, n0, n1, n2, n3, n4]) rfl ?_
            exact ⟨HL8.out.five _ _ _ _ _, by rw [HX.out]; rfl⟩
        · have fc : wr.cell? ⟨w6.heap.size, 1, none⟩ = some (.func (.func 45) #[] #[.pointer (some ⟨c1, 0, none⟩), .pointer (some ⟨c2, 0, none⟩)]) := blk_cell HF.out rfl
          have HR := Lib.hid (wrongAt_none l 0 hwn)
          have HE := Lib.hid (pass1_any l (.slice ad l.length cap) base (w.heap.size + 1 + 1 + 1) c1 c2 wA wr HVA.out hb0 hb1 hn4 HNL.out HR.out hi)
          have HWN := Lib.hid hwn
          clear hi hwn
          cases hly : layL base 0 [] [] (l.zip (basesL base l)) with
          | error xk =>
            obtain ⟨x0, k0⟩ := xk
            have hx0 : ¬ x0 = 0 := by rw [layL_err _ _ _ _ _ hly]; decide
            have HNO : Hid (∀ w7, ¬ I1 wA l base (w.heap.size + 1 + 1 + 1) c1 c2 l.length w7) := fun w7 => I1.not_err hly
            have HEQ : Hid (∀ (x : Int) (k : Nat), layL base 0 [] [] (l.zip (basesL base l)) = .error (x, k) → x = x0 ∧ k = k0) := fun x k h => by rw [hly] at h; cases h; exact ⟨rfl, rfl⟩
            have HX : Hid (linkL nameR l base = .error (x0, k0)) := by unfold Hid; rw [HX1.out, linkM, HWN.out]; simp only [linkR, hly]
            go_wp2_with (first | (go_at_call 29; refine HE.out.mono ?_; rintro e w7 ⟨hk7, hb7, x, a, rfl, h7⟩; obtain ⟨rfl, rfl⟩ := pick_err h7 (HNO.out w7) HEQ.out; have HL7 := Lib.hid (HL0.out.go hb7); clear hk7 hb7 h7) | fail)
            obtain ⟨V, hV⟩ : ∃ V, V = w7.alloc (.cells #[.int .i64 x0, .int .i64 (k0 : Int)] 40) := ⟨_, rfl⟩
            have HB : Hid (V.heap[w7.heap.size]? = some (.cells #[.int .i64 x0, .int .i64 (k0 : Int)] 40 (0, 0))) := by unfold Hid; rw [hV]; exact blk_new _ _ _
            have HLV := Lib.hid (HL7.out.go (w' := V) (by rw [hV]; exact oalloc _ _))
            rw [← hV]
            have hbS := HB.out
            refine wp_region_noPanic ?_
            refine wp_region_held_drew (S := fun X => X.heap[w7.heap.size]? = some (.cells #[.int .i64 x0, .int .i64 (k0 : Int)] 40 (0, 0))) (by kernel_rfl) hbS (fun hHeld => ?_)
            obtain ⟨V0, hV0⟩ : ∃ X, X = V.drew := ⟨_, rfl⟩
            have HL8 := Lib.hid (HLV.out.go (w' := V0) (by rw [hV0]; exact (Below.refl _ _).drew))
            rw [← hV0] at hHeld ⊢
            have hz7 := HL7.out.lt
            clear hV hV0 hbS HLV HB
            refine take_at 0 54 (v := ?_) rfl rfl (by kernel_rfl) (by kernel_rfl) (by kernel_rfl) (fun _ _ _ h => h) rfl ?_ hHeld ?_
            rotate_left
            · intro w hSw
              go_simp
              try with_reducible rfl
            simp only [List.setIfInBounds_toArray, List.set_cons_zero, List.set_cons_succ]
            refine take_at 1 55 (v := ?_) rfl rfl (by kernel_rfl) (by kernel_rfl) (by kernel_rfl) (fun _ _ _ h => h) rfl ?_ hHeld ?_
            rotate_left
            · intro w hSw
              have x0 := cell_of_block (i := 0) hSw rfl
              have x1 := cell_of_block (i := 1) hSw rfl
              go_simp
              try with_reducible rfl
            simp only [List.setIfInBounds_toArray, List.set_cons_zero, List.set_cons_succ]
            refine wpAnyH_ready (rs := [2]) (by kernel_rfl) (by simp) ?_
            refine AllReadyH.cons rfl (fun K hK => ?_) AllReadyH.nil
            obtain ⟨n0, n1, n2, n3, n4, f0, f1, f2, f3, f4⟩ := HL8.out.cells
            have hz8 := HL8.out.lt
            go_simp
            refine hK.out _ _ (by rw [Below.heap_setCell _ _ _ _ (by show w7.heap.size ≠ w.heap.size; omega), Below.heap_setCell _ _ _ _ (by show w7.heap.size ≠ w.heap.size; omega), Below.heap_setCell _ _ _ _ (by show w7.heap.size ≠ w.heap.size; omega)]; exact hHeld) (fun hHeld => ?_)
            clear hK K
            refine wpAnyH_ready (rs := [3]) (by kernel_rfl) (by simp) ?_
            refine AllReadyH.cons rfl (fun K hK => ?_) AllReadyH.nil
            go_simp
            refine hK.out _ _ (by rw [Below.heap_setCell _ _ _ _ (by show w7.heap.size ≠ w.heap.size + 1; omega), Below.heap_setCell _ _ _ _ (by show w7.heap.size ≠ w.heap.size + 1; omega)]; exact hHeld) (fun _ => ?_)
            clear hK K hHeld
            refine wpAnyH_done (by kernel_rfl) ?_ _
            refine NoPanic.normal ?_
            go_wp2_with fail
            refine bodyPost_ret (v := .tuple #[.agg #[.int .i64 0, .slice none 0 0, .slice none 0 0], .agg #[.int .i64 x0, .int .i64 (k0 : Int)]]) (by simp [results, Try.results10, go_sem, n0, n1, n2, n3, n4]) rfl ?_
            exact ⟨HL8.out.five _ _ _ _ _, by rw [HX.out]; rfl⟩
          | ok bs =>
            have HNO : Hid (∀ (x : Int) (k : Nat), ¬ layL base 0 [] [] (l.zip (basesL base l)) = .error (x, k)) := fun x k h => by rw [hly] at h; cases h
            clear hly
            go_wp2_with (first | (go_at_call 29; refine HE.out.mono ?_; rintro e w7 ⟨hk7, hb7, x, a, rfl, h7⟩; obtain ⟨rfl, rfl, hi7⟩ := pick_ok h7 HNO.out; have HK7 := Lib.hid hk7; have HI7 := Lib.hid hi7; clear hk7 hb7 h7 hi7) | fail)
            exact ⟨⟨2, by decide, by go_num, ⟨(HK7.out.trans (KeepT.of (oalloc _ _))).2 _ _ _ _ HF.out (by decide) (by decide) (by decide), (HK7.out.trans (KeepT.of (oalloc _ _))).2 _ _ _ _ HD1.out (by decide) (by decide) (by decide), (HK7.out.trans (KeepT.of (oalloc _ _))).2 _ _ _ _ HD2.out (by decide) (by decide) (by decide), .inr (.inr (.inl ⟨rfl, HWN.out, HI7.out.go (oalloc _ _)⟩))⟩⟩, by simp [intOf]⟩
        · have fc : wr.cell? ⟨w6.heap.size, 2, none⟩ = some (.func (.func 46) #[] #[.pointer (some ⟨d2, 0, none⟩), .pointer (some ⟨d1, 0, none⟩)]) := blk_cell HF.out rfl
          have HR := Lib.hid (wrongAt_none l 0 hwn)
          obtain ⟨b, s, bv, sv, D, hly, hbl, hi2⟩ := hi.done HD1.out HD2.out
          have HE := Lib.hid (pass2_any l (.slice ad l.length cap) base b s bv sv D (w.heap.size + 1 + 1 + 1) d1 d2 wA wr HVA.out hb0 hb1 hn4 HR.out hbl hi2)
          have HWN := Lib.hid hwn
          have HLY := Lib.hid hly
          clear hi hwn hly hi2 hbl
          cases hrl : relL s base 0 b (l.zip (basesL base l)) with
          | error xk =>
            obtain ⟨x0, k0⟩ := xk
            have hx0 : ¬ x0 = 0 := relL_ne _ _ _ hrl
            have HNO : Hid (∀ w7, ¬ I2 wA l base b s bv sv D (w.heap.size + 1 + 1 + 1) d1 d2 l.length w7) := fun w7 => I2.not_err hrl
            have HEQ : Hid (∀ (x : Int) (k : Nat), relL s base 0 b (l.zip (basesL base l)) = .error (x, k) → x = x0 ∧ k = k0) := fun x k h => by rw [hrl] at h; cases h; exact ⟨rfl, rfl⟩
            have HX : Hid (linkL nameR l base = .error (x0, k0)) := by unfold Hid; rw [HX1.out, linkM, HWN.out]; simp only [linkR, HLY.out, linkS, hrl]
            go_wp2_with (first | (go_at_call 29; refine HE.out.mono ?_; rintro e w7 ⟨hk7, hb7, x, a, rfl, h7⟩; obtain ⟨rfl, rfl⟩ := pick_err h7 (HNO.out w7) HEQ.out; have HL7 := Lib.hid (HL0.out.go hb7); clear hk7 hb7 h7) | fail)
            obtain ⟨V, hV⟩ : ∃ V, V = w7.alloc (.cells #[.int .i64 x0, .int .i64 (k0 : Int)] 40) := ⟨_, rfl⟩
            have HB : Hid (V.heap[w7.heap.size]? = some (.cells #[.int .i64 x0, .int .i64 (k0 : Int)] 40 (0, 0))) := by unfold Hid; rw [hV]; exact blk_new _ _ _
            have HLV := Lib.hid (HL7.out.go (w' := V) (by rw [hV]; exact oalloc _ _))
            rw [← hV]
            have hbS := HB.out
            refine wp_region_noPanic ?_
            refine wp_region_held_drew (S := fun X => X.heap[w7.heap.size]? = some (.cells #[.int .i64 x0, .int .i64 (k0 : Int)] 40 (0, 0))) (by kernel_rfl) hbS (fun hHeld => ?_)
            obtain ⟨V0, hV0⟩ : ∃ X, X = V.drew := ⟨_, rfl⟩
            have HL8 := Lib.hid (HLV.out.go (w' := V0) (by rw [hV0]; exact (Below.refl _ _).drew))
            rw [← hV0] at hHeld ⊢
            have hz7 := HL7.out.lt
            clear hV hV0 hbS HLV HB
            refine take_at 0 54 (v := ?_) rfl rfl (by kernel_rfl) (by kernel_rfl) (by kernel_rfl) (fun _ _ _ h => h) rfl ?_ hHeld ?_
            rotate_left
            · intro w hSw
              go_simp
              try with_reducible rfl
            simp only [List.setIfInBounds_toArray, List.set_cons_zero, List.set_cons_succ]
            refine take_at 1 55 (v := ?_) rfl rfl (by kernel_rfl) (by kernel_rfl) (by kernel_rfl) (fun _ _ _ h => h) rfl ?_ hHeld ?_
            rotate_left
            · intro w hSw
              have x0 := cell_of_block (i := 0) hSw rfl
              have x1 := cell_of_block (i := 1) hSw rfl
              go_simp
              try with_reducible rfl
            simp only [List.setIfInBounds_toArray, List.set_cons_zero, List.set_cons_succ]
            refine wpAnyH_ready (rs := [2]) (by kernel_rfl) (by simp) ?_
            refine AllReadyH.cons rfl (fun K hK => ?_) AllReadyH.nil
            obtain ⟨n0, n1, n2, n3, n4, f0, f1, f2, f3, f4⟩ := HL8.out.cells
            have hz8 := HL8.out.lt
            go_simp
            refine hK.out _ _ (by rw [Below.heap_setCell _ _ _ _ (by show w7.heap.size ≠ w.heap.size; omega), Below.heap_setCell _ _ _ _ (by show w7.heap.size ≠ w.heap.size; omega), Below.heap_setCell _ _ _ _ (by show w7.heap.size ≠ w.heap.size; omega)]; exact hHeld) (fun hHeld => ?_)
            clear hK K
            refine wpAnyH_ready (rs := [3]) (by kernel_rfl) (by simp) ?_
            refine AllReadyH.cons rfl (fun K hK => ?_) AllReadyH.nil
            go_simp
            refine hK.out _ _ (by rw [Below.heap_setCell _ _ _ _ (by show w7.heap.size ≠ w.heap.size + 1; omega), Below.heap_setCell _ _ _ _ (by show w7.heap.size ≠ w.heap.size + 1; omega)]; exact hHeld) (fun _ => ?_)
            clear hK K hHeld
            refine wpAnyH_done (by kernel_rfl) ?_ _
            refine NoPanic.normal ?_
            go_wp2_with fail
            refine bodyPost_ret (v := .tuple #[.agg #[.int .i64 0, .slice none 0 0, .slice none 0 0], .agg #[.int .i64 x0, .int .i64 (k0 : Int)]]) (by simp [results, Try.results10, go_sem, n0, n1, n2, n3, n4]) rfl ?_
            exact ⟨HL8.out.five _ _ _ _ _, by rw [HX.out]; rfl⟩
          | ok c =>
            have HNO : Hid (∀ (x : Int) (k : Nat), ¬ relL s base 0 b (l.zip (basesL base l)) = .error (x, k)) := fun x k h => by rw [hrl] at h; cases h
            clear hrl
            go_wp2_with (first | (go_at_call 29; refine HE.out.mono ?_; rintro e w7 ⟨hk7, hb7, x, a, rfl, h7⟩; obtain ⟨rfl, rfl, hi7⟩ := pick_ok h7 HNO.out; have HK7 := Lib.hid hk7; have HI7 := Lib.hid hi7; clear hk7 hb7 h7 hi7) | fail)
            exact ⟨⟨3, by decide, by go_num, ⟨(HK7.out.trans (KeepT.of (oalloc _ _))).2 _ _ _ _ HF.out (by decide) (by decide) (by decide), (HK7.out.trans (KeepT.of (oalloc _ _))).2 _ _ _ _ HD1.out (by decide) (by decide) (by decide), (HK7.out.trans (KeepT.of (oalloc _ _))).2 _ _ _ _ HD2.out (by decide) (by decide) (by decide), .inr (.inr (.inr ⟨rfl, HWN.out, b, s, bv, sv, D, HLY.out, HI7.out.go (oalloc _ _)⟩))⟩⟩, by simp [intOf]⟩
        · obtain ⟨b, s, bv, sv, D, hly, c, hp, hcl, hrl⟩ := hi
          rw [relL_end (Nat.le_refl _)] at hrl
          have HX : Hid (linkL nameR l base = .ok (c, s)) := by unfold Hid; rw [HX1.out, linkM, hwn]; simp only [linkR, hly, linkS, hrl]
          have HLR := Lib.hid (LR.of hp.lo (out_len hp.lo.by'))
          obtain ⟨ba, bc, hbv, _⟩ := id HLR.out.by'
          obtain ⟨sa, sc, hsv, _⟩ := id HLR.out.sy
          subst hbv hsv
          obtain ⟨r0, r1, r2, r3⟩ := HLR.out.cells
          rw [HZA.out] at r0 r1 r2 r3
          obtain ⟨n0, n1, n2, n3, n4, f0, f1, f2, f3, f4⟩ := HLW.out.cells
          have hz := HLW.out.lt
          have hz3 := HL0.out.lt
          have hz4 : w.heap.size + 1 + 1 < wr.heap.size := by have := HLR.out.size; have := HZA.out; omega
          clear hp hly hrl hwn hcl
          go_wp2_with fail
          refine bodyPost_ret (v := .tuple #[.agg #[.int .i64 base, .slice ba c.length bc, .slice sa s.length sc], .agg #[.int .i64 0, .int .i64 0]]) (by simp [results, Try.results10, go_sem, n0, n1, n2, n3, n4]) rfl ?_
          exact ⟨HLW.out.five _ _ _ _ _, by rw [HX.out]; exact ⟨_, _, rfl, HLR.out.five hz3 _ _ _ _ _⟩⟩

end Go.Proofs.Ytalghejeekajgad
