/- The document's own Parse: what is kept while the object is read. -/
import Derived.Test.YtobdcnpifbnjaacOrE
import Derived.Test.YtobdcnpifbnjaacOcPb
namespace Go.Proofs.Ytobdcnpifbnjaac
open Go.RowKit

/-- What is kept while the object is read: the boxes, the rows, the reader; a, b, c: what the box holds; vc, vs, vr: the rows. -/
structure QK (w W : World) (a b c vc vs vr : Value) (code : List UInt8) (xs : List Sy) (rs : List Re) (l r : List UInt8) (s : Bool) : Prop where
  bel : Below w.heap.size w W
  n : W.heap[w.heap.size]? = some (.cells #[.slice none 0 0, .slice none 0 0, .slice none 0 0] 26 (0, 0))
  m : W.heap[w.heap.size + 2]? = some (.cells #[a, b, c] 26 (0, 0))
  code : Out W (w.heap.size + 3) vc code
  syms : W.ownsRow (w.heap.size + 3) 38 2 vs xs.length (scells xs)
  rels : W.ownsRow (w.heap.size + 3) 41 4 vr rs.length (rcells rs)
  er : ER W (w.heap.size + 1) l r s

section
variable {w W W' : World} {a b c vc vs vr : Value} {code : List UInt8} {xs : List Sy} {rs : List Re} {l r r' : List UInt8} {s s' : Bool}

theorem QK.size (h : QK w W a b c vc vs vr code xs rs l r s) : w.heap.size + 3 ≤ W.heap.size := h.code.2
/-- All but some blocks of the call's own rows stand. -/
theorem QK.read (h : QK w W a b c vc vs vr code xs rs l r s) (hg : W.grownBy W' (some (w.heap.size + 1))) (he : ER W' (w.heap.size + 1) l r' s') : QK w W' a b c vc vs vr code xs rs l r' s' := by
  have hz := h.size
  refine ⟨h.bel.grown hg (by omega) (fun j hj => by cases hj; omega), grown_block hg h.n (by omega), grown_block hg h.m (by omega), ⟨row_far h.code.1 (by omega) hg, Nat.le_trans h.code.2 hg.size⟩, row_far h.syms (by omega) hg, row_far h.rels (by omega) hg, he⟩
theorem QK.grow (h : QK w W a b c vc vs vr code xs rs l r s) (hb : Below W.heap.size W W') : QK w W' a b c vc vs vr code xs rs l r s := by
  have hz := h.size
  have hg : W.grownBy W' (some (w.heap.size + 1)) := ogbelow _ hb (Nat.le_refl _)
  exact h.read hg (h.er.below hb h.er.lt)
/-- A store into the box. -/
theorem QK.set (h : QK w W a b c vc vs vr code xs rs l r s) (i : Nat) (v : Value) : QK w (W.setCell ⟨w.heap.size + 2, i, none⟩ v) (if i = 0 then v else a) (if i = 1 then v else b) (if i = 2 then v else c) vc vs vr code xs rs l r s := by
  have hz := h.size
  have hs : ∀ k, k ≠ w.heap.size + 2 → (W.setCell ⟨w.heap.size + 2, i, none⟩ v).heap[k]? = W.heap[k]? := fun k hk => Below.heap_setCell _ _ _ _ hk
  refine ⟨h.bel.setCell (by show w.heap.size ≤ w.heap.size + 2; omega) _, by rw [hs _ (by omega)]; exact h.n, ?_, ⟨row_set h.code.1 (by omega), by simpa using h.code.2⟩, row_set h.syms (by omega), row_set h.rels (by omega), h.er.keep (by simp) fun k hk => hs k (by omega)⟩
  rw [_root_.Go.heap_setCell_same W _ i _ _ v h.m]
  match i with
  | 0 => rfl
  | 1 => rfl
  | 2 => rfl
  | k + 3 => simp
/-- A row of another type is another one. -/
theorem row_apart {W : World} {base base' size size' n n' : Nat} {e e' : TypeId} {v v' : Value} {ys ys' : List Value} (h : W.ownsRow base e size v n ys) (h' : W.ownsRow base' e' size' v' n' ys') (he : e ≠ e') : v'.ownBlock = none ∨ v'.ownBlock ≠ v.ownBlock := by
  rcases h'.2 with ⟨rfl, _⟩ | ⟨g', cap', cur', rfl, _, hg', _⟩
  · exact .inl rfl
  · refine .inr fun e0 => ?_
    rcases h.2 with ⟨rfl, _⟩ | ⟨g, cap, cur, rfl, _, hg, _⟩
    · simp [Value.ownBlock] at e0
    · simp only [Value.ownBlock, Option.some.injEq] at e0
      subst e0
      rw [hg] at hg'
      injection hg' with hg'
      injection hg' with _ h2
      exact he h2
/-- A box or a row of the syms appended to. -/
theorem QK.appS (h : QK w W a b c vc vs vr code xs rs l r s) (x : Sy) (g : Nat) (hg : W.heap[g]? = some (.cells #[.string ⟨x.name.toArray⟩, .int .i64 x.pos] 38 (0, 0))) (hl : xs.length ≤ 5000000000) :
    ∃ v' w', (∀ ty, (Builtin.append_ #[23, 23] ty #[vs, .slice (some ⟨g, 0, none⟩) 1 1]).run Try.prog W = .ok v' w') ∧ QK w w' a b c vc v' vr code (xs ++ [x]) rs l r s ∧ ∃ ad n cap, v' = .slice ad n cap := by
  have hz := h.size
  obtain ⟨v', w', h1, h2, h3⟩ := app_sym h.syms hz x g hg hl
  have hfar : ∀ j, vs.ownBlock = some j → w.heap.size + 3 ≤ j := fun j hj => (h.syms.lt j hj).1
  have hk : ∀ k, k < w.heap.size + 3 → w'.heap[k]? = W.heap[k]? := fun k hk => h3.block k (by omega) (fun e => by have := hfar k e.symm; omega)
  obtain ⟨ad, cap, hsh⟩ := row_shape h2
  refine ⟨v', w', h1, ⟨h.bel.grown h3 (by omega) (fun j hj => by have := hfar j hj; omega), by rw [hk _ (by omega)]; exact h.n, by rw [hk _ (by omega)]; exact h.m, ⟨h.code.1.kept h3 (row_apart h.syms h.code.1 (by decide)), Nat.le_trans h.code.2 h3.size⟩, h2, h.rels.kept h3 (row_apart h.syms h.rels (by decide)), h.er.keep h3.size fun k hk2 => hk k (by omega)⟩, ad, _, cap, hsh⟩
theorem QK.appR (h : QK w W a b c vc vs vr code xs rs l r s) (x : Re) (g : Nat) (hg : W.heap[g]? = some (.cells #[.int .i64 x.pos, .int .i64 x.size, .string ⟨x.name.toArray⟩, .int .i64 x.add] 41 (0, 0))) (hl : rs.length ≤ 5000000000) :
    ∃ v' w', (∀ ty, (Builtin.append_ #[24, 24] ty #[vr, .slice (some ⟨g, 0, none⟩) 1 1]).run Try.prog W = .ok v' w') ∧ QK w w' a b c vc vs v' code xs (rs ++ [x]) l r s ∧ ∃ ad n cap, v' = .slice ad n cap := by
  have hz := h.size
  obtain ⟨v', w', h1, h2, h3⟩ := app_rel h.rels hz x g hg hl
  have hfar : ∀ j, vr.ownBlock = some j → w.heap.size + 3 ≤ j := fun j hj => (h.rels.lt j hj).1
  have hk : ∀ k, k < w.heap.size + 3 → w'.heap[k]? = W.heap[k]? := fun k hk => h3.block k (by omega) (fun e => by have := hfar k e.symm; omega)
  obtain ⟨ad, cap, hsh⟩ := row_shape h2
  refine ⟨v', w', h1, ⟨h.bel.grown h3 (by omega) (fun j hj => by have := hfar j hj; omega), by rw [hk _ (by omega)]; exact h.n, by rw [hk _ (by omega)]; exact h.m, ⟨h.code.1.kept h3 (row_apart h.rels h.code.1 (by decide)), Nat.le_trans h.code.2 h3.size⟩, h.syms.kept h3 (row_apart h.rels h.syms (by decide)), h2, h.er.keep h3.size fun k hk2 => hk k (by omega)⟩, ad, _, cap, hsh⟩
theorem QK.cells (h : QK w W a b c vc vs vr code xs rs l r s) : W.cell? ⟨w.heap.size + 2, 0, none⟩ = some a ∧ W.cell? ⟨w.heap.size + 2, 1, none⟩ = some b ∧ W.cell? ⟨w.heap.size + 2, 2, none⟩ = some c := ⟨cell_of_block h.m rfl, cell_of_block h.m rfl, cell_of_block h.m rfl⟩
theorem QK.frozen (h : QK w W a b c vc vs vr code xs rs l r s) (i : Nat) (hi : i < 3) : W.frozen? ⟨w.heap.size + 2, i, none⟩ = false := by
  unfold World.frozen?
  simp only [h.m]
  match i, hi with
  | 0, _ => rfl
  | 1, _ => rfl
  | 2, _ => rfl
theorem QK.badCell (h : QK w W a b c vc vs vr code xs rs l r s) : W.cell? ⟨w.heap.size + 1, 2, none⟩ = some (.bool s) := by
  obtain ⟨k, h1, _⟩ := h.er
  exact h1.c2
end

end Go.Proofs.Ytobdcnpifbnjaac
