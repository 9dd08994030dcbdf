/- Where names are, as a map; the image while the program makes it, with that map. -/
import Derived.Test.YtalghejeekajgadLdE
import Derived.Test.YtalghejeekajgadLkF
import Derived.Test.YtalghejeekajgadOcV
namespace Go.Proofs.Ytalghejeekajgad
open Go.RowKit Go.Maps Go.MapKept

theorem zeroI (w : World) : (zeroValue 3).run Try.prog w = .ok (.int .i64 0) w := by kernel_rfl

theorem whereL_cases {n : List UInt8} : ∀ {s : List Sy}, (∀ y, y ∈ s → 0 ≤ y.pos) → whereL n s = -1 ∨ 0 ≤ whereL n s
  | [], _ => .inl rfl
  | x :: s, h => by
    unfold whereL
    split
    · exact .inr (h x List.mem_cons_self)
    · exact whereL_cases fun y hy => h y (List.mem_cons_of_mem _ hy)
theorem whereL_snoc {n : List UInt8} {x : Sy} : ∀ {s : List Sy}, (∀ y, y ∈ s → 0 ≤ y.pos) → whereL n (s ++ [x]) = if 0 ≤ whereL n s then whereL n s else if x.name = n then x.pos else -1
  | [], _ => by simp [whereL]
  | y :: s, h => by
    have ih := whereL_snoc (n := n) (x := x) (s := s) fun z hz => h z (List.mem_cons_of_mem _ hz)
    rw [List.cons_append, whereL, whereL, ih]
    by_cases hy : y.name = n
    · rw [if_pos hy, if_pos hy, if_pos (h y List.mem_cons_self)]
    · rw [if_neg hy, if_neg hy]

/-- The map tells where each name is. -/
structure PM (D : DataW Unit) (s : List Sy) : Prop where
  im : IsMap D
  has : ∀ n, Maps.has D (.string n) = decide (0 ≤ whereL n s)
  at' : ∀ n z, 0 ≤ whereL n s → D.atKey (.string n) z = .lit (.int .i64 (whereL n s))
  pos : ∀ x, x ∈ s → 0 ≤ x.pos
theorem PM.nil : PM (.map []) [] := ⟨isMap_empty, fun _ => rfl, fun _ _ h => absurd h (by show ¬ (0 : Int) ≤ -1; decide), fun _ h => by cases h⟩
theorem PM.snoc {D : DataW Unit} {s : List Sy} (h : PM D s) {x : Sy} (h0 : whereL x.name s < 0) (hx : 0 ≤ x.pos) : PM (D.put (.string x.name) (.lit (.int .i64 x.pos))) (s ++ [x]) := by
  refine ⟨h.im.put _ _, fun n => ?_, fun n z hn => ?_, fun y hy => ?_⟩
  · rw [whereL_snoc h.pos]
    by_cases hn : x.name = n
    · subst hn
      rw [has_put_same h.im (by trivial), if_neg (by omega), if_pos rfl]
      simp [hx]
    · rw [has_put_other (fun e => hn (by injection e with e; exact e.symm)), h.has]
      by_cases hw : 0 ≤ whereL n s
      · rw [if_pos hw]
      · rw [if_neg hw, if_neg hn]; simp [hw]
  · rw [whereL_snoc h.pos] at hn ⊢
    by_cases hq : x.name = n
    · subst hq
      rw [atKey_put_same h.im (by trivial), if_neg (by omega), if_pos rfl]
    · rw [atKey_put_other (fun e => hq (by injection e with e; exact e.symm))]
      by_cases hw : 0 ≤ whereL n s
      · rw [if_pos hw, h.at' n z hw]
      · rw [if_neg hw, if_neg hq] at hn
        exact absurd hn (by decide)
  · rcases List.mem_append.1 hy with hy | hy
    · exact h.pos y hy
    · cases List.mem_singleton.1 hy; exact hx

/-- The image's box, its rows, the map, and the two variables that hold where these are. -/
structure LP (w1 W : World) (base : Int) (b : List UInt8) (s : List Sy) (bv sv : Value) (mb c1 c2 : Nat) (D : DataW Unit) : Prop where
  lo : LO w1 W base b s bv sv
  mp : W.ownsMap Try.prog 9 (plainElem Try.prog 3) mb s.length D
  pm : PM D s
  q1 : W.heap[c1]? = some (.cells #[.pointer (some ⟨w1.heap.size, 0, none⟩)] 70 (0, 0))
  q2 : W.heap[c2]? = some (.cells #[.map (some mb)] 66 (0, 0))
  ne : w1.heap.size < mb

/-- A map is no row. -/
theorem map_row {W : World} {base size m mb n : Nat} {e : TypeId} {v : Value} {ys : List Value} {D : DataW Unit} (h : W.ownsRow base e size v m ys) (hm : W.ownsMap Try.prog 9 (plainElem Try.prog 3) mb n D) : some mb ≠ v.ownBlock := by
  obtain ⟨es, clock, hb, _⟩ := hm
  rcases h.2 with ⟨rfl, _⟩ | ⟨g, cap, cur, rfl, _, hg, _⟩
  · simp [Value.ownBlock]
  · intro e0
    simp only [Value.ownBlock, Option.some.injEq] at e0
    subst e0
    rw [hb] at hg
    cases hg

section
variable {w1 W W' : World} {base : Int} {b : List UInt8} {s : List Sy} {bv sv : Value} {mb c1 c2 : Nat} {D : DataW Unit}
theorem LP.go (h : LP w1 W base b s bv sv mb c1 c2 D) (hb : Below W.heap.size W W') : LP w1 W' base b s bv sv mb c1 c2 D :=
  ⟨h.lo.go hb, h.mp.kept (ogbelow none hb (Nat.le_refl _)) (by simp), h.pm, by rw [hb.block _ (Array.getElem?_eq_some_iff.1 h.q1).1]; exact h.q1, by rw [hb.block _ (Array.getElem?_eq_some_iff.1 h.q2).1]; exact h.q2, h.ne⟩
theorem LP.keep (h : LP w1 W base b s bv sv mb c1 c2 D) (hk : KeepT W W') : W'.heap[c1]? = some (.cells #[.pointer (some ⟨w1.heap.size, 0, none⟩)] 70 (0, 0)) ∧ W'.heap[c2]? = some (.cells #[.map (some mb)] 66 (0, 0)) :=
  ⟨hk.2 _ _ _ _ h.q1 (by decide) (by decide) (by decide), hk.2 _ _ _ _ h.q2 (by decide) (by decide) (by decide)⟩
/-- Another block, of another type than those, is changed. -/
theorem LP.other (h : LP w1 W base b s bv sv mb c1 c2 D) {q : Nat} {c : Array Value} {t : TypeId} {f : Nat × Nat} (hq : W.heap[q]? = some (.cells c t f)) (hw : w1.heap.size ≤ q) (t1 : t ≠ 5) (t2 : t ≠ 49) (t3 : t ≠ 38) (t4 : t ≠ 70) (t5 : t ≠ 66) (i : Nat) (x : Value) :
    LP w1 (W.setCell ⟨q, i, none⟩ x) base b s bv sv mb c1 c2 D := by
  have hne : ∀ {p : Nat} {c' : Array Value} {t' : TypeId} {f' : Nat × Nat}, W.heap[p]? = some (.cells c' t' f') → t' ≠ t → p ≠ q := by
    intro p c' t' f' hp ht e
    subst e
    rw [hq] at hp
    injection hp with hp
    injection hp with _ h2
    exact ht h2.symm
  have hg : W.grownBy (W.setCell ⟨q, i, none⟩ x) (some q) := ogset W q i x
  have hrow : ∀ {base size m : Nat} {e : TypeId} {v : Value} {ys : List Value}, W.ownsRow base e size v m ys → e ≠ t → (W.setCell ⟨q, i, none⟩ x).ownsRow base e size v m ys := by
    intro base size m e v ys hr he
    refine hr.kept hg ?_
    rcases hr.2 with ⟨rfl, _⟩ | ⟨g, cap, cur, rfl, _, hgb, _⟩
    · exact .inl rfl
    · exact .inr (fun e0 => hne hgb he (by simpa [Value.ownBlock] using e0))
  refine ⟨⟨h.lo.bel.setCell hw _, ?_, ⟨hrow h.lo.by'.1 (Ne.symm t1), by simpa using h.lo.by'.2⟩, hrow h.lo.sy (Ne.symm t2)⟩, h.mp.setCell ?_ _, h.pm, ?_, ?_, h.ne⟩
  · rw [Below.heap_setCell _ _ _ _ (hne h.lo.box (Ne.symm t3))]; exact h.lo.box
  · intro e
    obtain ⟨es, clock, hb, _⟩ := h.mp
    have e2 : mb = q := e
    subst e2
    rw [hb] at hq
    cases hq
  · rw [Below.heap_setCell _ _ _ _ (hne h.q1 (Ne.symm t4))]; exact h.q1
  · rw [Below.heap_setCell _ _ _ _ (hne h.q2 (Ne.symm t5))]; exact h.q2
/-- Bytes appended: the box is told of it behind. -/
theorem LP.appB (h : LP w1 W base b s bv sv mb c1 c2 D) {x : Value} {news : List UInt8} (hx : OBytes W x news) (hl : b.length + news.length ≤ 140737488355328) :
    ∃ v' W', (∀ ty, (Builtin.append_ #[22, 22] ty #[bv, x]).run Try.prog W = .ok v' W') ∧ Out W' (w1.heap.size + 1) v' (b ++ news) ∧ W.grownBy W' bv.ownBlock := app_obytes h.lo.by' hx hl
theorem LP.told (h : LP w1 W base b s bv sv mb c1 c2 D) {v' : Value} {b' : List UInt8} (hg : W.grownBy W' bv.ownBlock) (ho : Out W' (w1.heap.size + 1) v' b') :
    KeepT W (W'.setCell ⟨w1.heap.size, 1, none⟩ v') ∧ LP w1 (W'.setCell ⟨w1.heap.size, 1, none⟩ v') base b' s v' sv mb c1 c2 D := by
  have hz := h.lo.size
  have hbox := h.lo.by'.box hg h.lo.box (by decide)
  have hkeep : ∀ {q : Nat} {c : Array Value} {t : TypeId} {f : Nat × Nat}, W.heap[q]? = some (.cells c t f) → t ≠ 5 → t ≠ 38 → (W'.setCell ⟨w1.heap.size, 1, none⟩ v').heap[q]? = some (.cells c t f) := by
    intro q c t f hb h1 h3
    have hne : q ≠ w1.heap.size := by
      intro e
      subst e
      rw [h.lo.box] at hb
      injection hb with hb
      injection hb with _ h2
      exact h3 h2.symm
    rw [Below.heap_setCell _ _ _ _ hne]
    exact h.lo.by'.box hg hb h1
  have hmne : some mb ≠ bv.ownBlock := map_row h.lo.by'.1 h.mp
  refine ⟨⟨by simpa using hg.size, fun q c t f hb h1 _ h3 => hkeep hb h1 h3⟩, ⟨?_, ?_, ⟨row_set ho.1 (by omega), by simpa using ho.2⟩, row_set (h.lo.sy.kept hg (row_apart h.lo.by'.1 h.lo.sy (by decide))) (by omega)⟩, (h.mp.kept hg hmne).setCell (by have := h.ne; show mb ≠ w1.heap.size; omega) _, h.pm, hkeep h.q1 (by decide) (by decide), hkeep h.q2 (by decide) (by decide), h.ne⟩
  · exact (h.lo.by'.grown h.lo.bel hg (by omega)).setCell (Nat.le_refl _) _
  · rw [_root_.Go.heap_setCell_same W' _ 1 _ _ v' hbox]; rfl
/-- A name's place is kept in the map. -/
theorem LP.mapped (h : LP w1 W base b s bv sv mb c1 c2 D) (hg : W.grownBy W' (some mb)) : LO w1 W' base b s bv sv ∧ KeepT W W' := by
  have hz := h.lo.size
  obtain ⟨es, clock, hmb, _⟩ := id h.mp
  have hne : ∀ {p : Nat} {c : Array Value} {t : TypeId} {f : Nat × Nat}, W.heap[p]? = some (.cells c t f) → some p ≠ some mb := by
    intro p c t f hp e
    injection e with e
    subst e
    rw [hmb] at hp
    cases hp
  have hkeep : ∀ {q : Nat} {c : Array Value} {t : TypeId} {f : Nat × Nat}, W.heap[q]? = some (.cells c t f) → W'.heap[q]? = some (.cells c t f) := fun hb => by
    rw [hg.block _ (Array.getElem?_eq_some_iff.1 hb).1 (hne hb)]; exact hb
  have hr : ∀ {base size m : Nat} {e : TypeId} {v : Value} {ys : List Value}, W.ownsRow base e size v m ys → W'.ownsRow base e size v m ys := by
    intro base size m e v ys hr
    refine hr.kept hg ?_
    rcases hr.2 with ⟨rfl, _⟩ | ⟨g, cap, cur, rfl, _, hgb, _⟩
    · exact .inl rfl
    · exact .inr (fun e0 => hne hgb (by simpa [Value.ownBlock] using e0))
  exact ⟨⟨h.lo.bel.grown hg (by omega) (fun j hj => by cases hj; have := h.ne; omega), hkeep h.lo.box, ⟨hr h.lo.by'.1, Nat.le_trans h.lo.by'.2 hg.size⟩, hr h.lo.sy⟩, hg.size, fun q c t f hb _ _ _ => hkeep hb⟩
end

end Go.Proofs.Ytalghejeekajgad
