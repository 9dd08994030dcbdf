/- The contract of package expr's Eval: what the walk wants. -/
import Derived.Test.YtibenegbjpoclabDoorEvB
namespace Go.Proofs.YtibenegbjpoclabDoor
open Go.RowKit

instance : Inhabited Va := ⟨⟨[], 0⟩⟩
def vz : Va := ⟨[], 0⟩

theorem infoVa : ∃ i, Tryd.prog.info? 32 = some i ∧ i.zero = some (.agg #[.string ⟨#[]⟩, .int .i64 0]) ∧ i.size = 2 ∧ i.bytes = 24 := by
  have h : (Tryd.prog.info? 32).map (fun i => (i.zero, i.size, i.bytes)) = some (some (.agg #[.string ⟨#[]⟩, .int .i64 0]), 2, 24) := by kernel_rfl
  obtain ⟨i, hi, e⟩ := Option.map_eq_some_iff.1 h
  simp only [Prod.mk.injEq] at e
  exact ⟨i, hi, e.1, e.2.1, e.2.2⟩

def vaCells (n : Nat) : Array Value := madeCells #[.string ⟨#[]⟩, .int .i64 0] (n * 2)

theorem run_make_va (n : Nat) (hn : n ≤ 2513169434843) (w : World) : (Instr.makeSlice 55 (.int .i64 (n : Int)) (.int .i64 (n : Int))).run Tryd.prog w = .ok (.slice (some ⟨w.heap.size, 0, none⟩) n n) (w.alloc (.cells (vaCells n) 32)) := by
  obtain ⟨i, hi, h0, h1, h2⟩ := infoVa
  have h := run_make w 55 32 i (.agg #[.string ⟨#[]⟩, .int .i64 0]) Tryd.underlying55 hi h0 .i64 .i64 n n (by omega) (by omega) (by rw [h2]; omega) (by omega)
  rw [h1, Int.toNat_natCast] at h
  exact h

theorem vaCells_at (n i : Nat) (hi : i < n) : (vaCells n)[i * 2]? = some (.string ⟨#[]⟩) ∧ (vaCells n)[i * 2 + 1]? = some (.int .i64 0) := by
  unfold vaCells madeCells
  have h1 : i * 2 < n * 2 := by omega
  have h2 : i * 2 + 1 < n * 2 := by omega
  have e1 : i * 2 % 2 = 0 := by omega
  have e2 : (i * 2 + 1) % 2 = 1 := by omega
  simp [h1, h2, e2]

/-- The row of values, of which the first ones are written. -/
def Vals (w : World) (K n : Nat) (done : List Va) : Prop :=
  (∀ i, i < n → w.cell? ⟨K, i * 2, none⟩ = some (.string ⟨(done.getD i vz).name.toArray⟩) ∧ w.cell? ⟨K, i * 2 + 1, none⟩ = some (.int .i64 (done.getD i vz).n)) ∧ ∀ i, w.frozen? ⟨K, i, none⟩ = false

theorem vals_new (w : World) (n : Nat) : Vals (w.alloc (.cells (vaCells n) 32)) w.heap.size n [] := by
  refine ⟨fun i hi => ?_, fun i => free_at (heap_alloc_new w _)⟩
  obtain ⟨h1, h2⟩ := vaCells_at n i hi
  exact ⟨cell_at rfl h1, cell_at rfl h2⟩
theorem Vals.keep {w w' : World} {K n : Nat} {done : List Va} (h : Vals w K n done) (hb : w'.heap[K]? = w.heap[K]?) : Vals w' K n done :=
  have c : ∀ o, w'.cell? ⟨K, o, none⟩ = w.cell? ⟨K, o, none⟩ := fun o => World.cell?_of_block (a := ⟨K, o, none⟩) (w := w) hb
  ⟨fun i hi => by rw [c, c]; exact h.1 i hi, fun i => by rw [World.frozen?_of_block (w := w) hb]; exact h.2 i⟩
theorem getD_app_lt {done : List Va} {v : Va} {i : Nat} (h : i ≠ done.length) : (done ++ [v]).getD i vz = done.getD i vz := by
  by_cases hlt : i < done.length
  · simp [List.getD, List.getElem?_append_left hlt]
  · simp [List.getD]
    rw [List.getElem?_eq_none (by simp; omega), List.getElem?_eq_none (by omega)]
theorem getD_app_eq {done : List Va} {v : Va} : (done ++ [v]).getD done.length vz = v := by simp [List.getD]
theorem Vals.put {w : World} {K n : Nat} {done : List Va} (h : Vals w K n done) {k : Nat} (hk : done.length = k) (hn : k < n) (v : Va) : Vals ((w.setCell ⟨K, k * 2, none⟩ (.string ⟨v.name.toArray⟩)).setCell ⟨K, k * 2 + 1, none⟩ (.int .i64 v.n)) K n (done ++ [v]) := by
  subst hk
  obtain ⟨c0, c1⟩ := h.1 done.length hn
  refine ⟨fun i hi => ?_, fun i => by rw [World.frozen?_setCell, World.frozen?_setCell]; exact h.2 i⟩
  by_cases e : i = done.length
  · subst e
    rw [getD_app_eq]
    exact ⟨by rw [off_other _ _ _ (by omega)]; exact World.cell?_setCell_same _ _ _ c0, World.cell?_setCell_same _ _ _ (by rw [off_other _ _ _ (by omega)]; exact c1)⟩
  · rw [getD_app_lt e, off_other _ _ _ (by omega), off_other _ _ _ (by omega), off_other _ _ _ (by omega), off_other _ _ _ (by omega)]
    exact h.1 i hi

/-- What has come of the first parts. -/
def EvAt (equs : List (List UInt8 × Int)) (ks : List Ex) (k : Nat) (done : List Va) : Prop :=
  done.length = k ∧ (∀ x, evalL equs (ks.drop k) = .error x → evalL equs ks = .error x) ∧ ∀ vs, evalL equs (ks.drop k) = .ok vs → evalL equs ks = .ok (done ++ vs)
theorem evAt_start (equs : List (List UInt8 × Int)) (ks : List Ex) : EvAt equs ks 0 [] := ⟨rfl, fun _ h => h, fun _ h => h⟩
theorem evAt_ok {equs : List (List UInt8 × Int)} {ks : List Ex} {k : Nat} {done : List Va} (h : EvAt equs ks k done) (hk : k < ks.length) {v : Va} (hv : evalR equs ks[k] = .ok v) : EvAt equs ks (k + 1) (done ++ [v]) := by
  have hd : ks.drop k = ks[k] :: ks.drop (k + 1) := List.drop_eq_getElem_cons hk
  refine ⟨by rw [List.length_append, h.1]; rfl, fun x hx => h.2.1 x ?_, fun vs hvs => ?_⟩
  · rw [hd, evalL, hv]; simp only; rw [hx]
  · rw [h.2.2 (v :: vs) (by rw [hd, evalL, hv]; simp only; rw [hvs])]; simp
theorem evAt_bad {equs : List (List UInt8 × Int)} {ks : List Ex} {k : Nat} {done : List Va} (h : EvAt equs ks k done) (hk : k < ks.length) {x : Int} (hv : evalR equs ks[k] = .error x) : evalL equs ks = .error x := by
  have hd : ks.drop k = ks[k] :: ks.drop (k + 1) := List.drop_eq_getElem_cons hk
  exact h.2.1 x (by rw [hd, evalL, hv])
theorem evAt_end {equs : List (List UInt8 × Int)} {ks : List Ex} {k : Nat} {done : List Va} (h : EvAt equs ks k done) (hk : ks.length ≤ k) : evalL equs ks = .ok done := by
  have := h.2.2 [] (by rw [List.drop_eq_nil_of_le hk]; rfl)
  rwa [List.append_nil] at this

mutual
theorem evalR_bad {equs : List (List UInt8 × Int)} : ∀ (e : Ex) {x : Int}, evalR equs e = .error x → x ≠ 0
  | .mk kind n nm kids, x, h => by
    rw [evalR] at h
    cases hk : evalL equs kids with
    | error y => rw [hk] at h; injection h with h; exact h ▸ evalL_bad kids hk
    | ok vs =>
      rw [hk] at h
      simp only [combR] at h
      repeat' split at h
      all_goals first | (injection h with h; omega) | cases h
theorem evalL_bad {equs : List (List UInt8 × Int)} : ∀ (l : List Ex) {x : Int}, evalL equs l = .error x → x ≠ 0
  | [], x, h => by rw [evalL] at h; cases h
  | k :: r, x, h => by
    rw [evalL] at h
    cases hk : evalR equs k with
    | error y => rw [hk] at h; injection h with h; exact h ▸ evalR_bad k hk
    | ok v =>
      rw [hk] at h
      simp only at h
      cases hr : evalL equs r with
      | error y => rw [hr] at h; injection h with h; exact h ▸ evalL_bad r hr
      | ok vs => rw [hr] at h; cases h
end

theorem evalV_shape (r : Except Int Va) : ∃ (t : ByteArray) (m y : Int), evalV r = .tuple #[.agg #[.string t, .int .i64 m], .int .i64 y] := by
  cases r with
  | ok v => exact ⟨_, _, _, rfl⟩
  | error x => exact ⟨_, _, _, rfl⟩

/-- Whether it is of a kind, with as many parts as it must have. -/
def wholeB (kind : Int) (len : Nat) : Bool := decide (1 ≤ kind ∧ kind ≤ 11 ∧ (len : Int) = kKids kind)

theorem kKids_eq {kind : Int} (h1 : 1 ≤ kind) (h2 : kind ≤ 11) : kKids kind = if kind ≤ 2 then 0 else if kind ≤ 4 then 1 else 2 := by
  have : kind = 1 ∨ kind = 2 ∨ kind = 3 ∨ kind = 4 ∨ kind = 5 ∨ kind = 6 ∨ kind = 7 ∨ kind = 8 ∨ kind = 9 ∨ kind = 10 ∨ kind = 11 := by omega
  rcases this with rfl | rfl | rfl | rfl | rfl | rfl | rfl | rfl | rfl | rfl | rfl <;> rfl

theorem comb_no {equs : List (List UInt8 × Int)} {kind n : Int} {nm : List UInt8} {vs : List Va} (h : wholeB kind vs.length = false) : combR equs kind n nm vs = .error 1 := by
  have hw : ¬ (1 ≤ kind ∧ kind ≤ 11 ∧ (vs.length : Int) = kKids kind) := by simpa [wholeB] using h
  unfold combR
  match vs, hw with
  | [], hw =>
    rw [if_neg, if_neg]
    · rintro ⟨rfl, _⟩; exact hw ⟨by decide, by decide, by rfl⟩
    · rintro ⟨rfl, _⟩; exact hw ⟨by decide, by decide, by rfl⟩
  | [a], hw =>
    rw [if_neg (fun c => by cases c.2), if_neg (fun c => by cases c.2)]
    simp only
    rw [if_neg]
    rintro (rfl | rfl)
    · exact hw ⟨by decide, by decide, by rfl⟩
    · exact hw ⟨by decide, by decide, by rfl⟩
  | [a, b], hw =>
    rw [if_neg (fun c => by cases c.2), if_neg (fun c => by cases c.2)]
    simp only
    rw [if_neg]
    rintro ⟨h1, h2⟩
    refine hw ⟨by omega, h2, ?_⟩
    rw [kKids_eq (by omega) h2, if_neg (by omega), if_neg (by omega)]
    rfl
  | a :: b :: c :: r, hw =>
    rw [if_neg (fun c => by cases c.2), if_neg (fun c => by cases c.2)]
theorem comb_two {equs : List (List UInt8 × Int)} {kind n : Int} {nm : List UInt8} {a b : Va} (h5 : 5 ≤ kind) (h11 : kind ≤ 11) : combR equs kind n nm [a, b] = match placeR kind a.name b.name with | some p => .ok ⟨p, opR kind a.n b.n⟩ | none => .error 8 := by
  unfold combR
  rw [if_neg (fun c => by cases c.2), if_neg (fun c => by cases c.2)]
  simp only
  rw [if_pos ⟨h5, h11⟩]
  cases placeR kind a.name b.name <;> rfl
theorem comb_one {equs : List (List UInt8 × Int)} {kind n : Int} {nm : List UInt8} {a : Va} (h : kind = 3 ∨ kind = 4) : combR equs kind n nm [a] = if a.name = [] then .ok ⟨[], sgn (if kind = 4 then -a.n - 1 else -a.n)⟩ else .error 8 := by
  unfold combR
  rw [if_neg (fun c => by cases c.2), if_neg (fun c => by cases c.2)]
  simp only
  rw [if_pos h]
theorem comb_name {equs : List (List UInt8 × Int)} {n : Int} {nm : List UInt8} : combR equs 2 n nm [] = .ok (namedR nm equs) := by
  unfold combR namedR
  rw [if_neg (by decide), if_pos ⟨rfl, rfl⟩]
  cases lookE nm equs <;> rfl
theorem comb_num {equs : List (List UInt8 × Int)} {n : Int} {nm : List UInt8} : combR equs 1 n nm [] = .ok ⟨[], sgn n⟩ := by
  unfold combR
  rw [if_pos ⟨rfl, rfl⟩]

end Go.Proofs.YtibenegbjpoclabDoor
