/- The document's own Link: what is wrong with the base, the number, and the objects. -/
import Derived.Test.YtalghejeekajgadLkB
namespace Go.Proofs.Ytalghejeekajgad
open Go.RowKit

/-- What Link answers where something is wrong. -/
def noV (e a : Int) : Ending := .returned (.tuple #[.agg #[.int .i64 0, .slice none 0 0, .slice none 0 0], .agg #[.int .i64 e, .int .i64 a]])
theorem rno_any (e a : Int) (w : World) :
    Calls Try.prog 30 #[.int .i64 e, .int .i64 a] w fun r w' => r = noV e a ∧ Below w.heap.size w w' := by
  have HB := Lib.hid (show ∀ x y : Obj, Below w.heap.size w ((w.alloc x).alloc y) from fun x y => ((Below.refl _ _).alloc (Nat.le_refl _) x).alloc (by simp) y)
  go_enter Try.func30, Try.ntmps30
  go_wp2
  refine bodyPost_ret (v := .tuple #[.agg #[.int .i64 0, .slice none 0 0, .slice none 0 0], .agg #[.int .i64 e, .int .i64 a]]) (by simp [results, Try.results30, go_sem]) rfl ?_
  exact ⟨rfl, HB.out _ _⟩

/-- A box, by its block. -/
theorem blk_cell {w : World} {b i : Nat} {c : Array Value} {t : TypeId} {v : Value} (h : w.heap[b]? = some (.cells c t (0, 0))) (hv : c[i]? = some v) : w.cell? ⟨b, i, none⟩ = some v := by simp [World.cell?, h, hv]
theorem blk_froz {w : World} {b i : Nat} {c : Array Value} {t : TypeId} (h : w.heap[b]? = some (.cells c t (0, 0))) : w.frozen? ⟨b, i, none⟩ = false := by simp [World.frozen?, h]
theorem blk_new (w : World) (c : Array Value) (t : TypeId) : (w.alloc (.cells c t)).heap[w.heap.size]? = some (.cells c t (0, 0)) := by unfold World.alloc; simp only [Array.getElem?_push_size]

/-- The two results' boxes, laid first. -/
structure LB (w0 w : World) : Prop where
  bel : Below w0.heap.size w0 w
  lt : w0.heap.size + 2 ≤ w.heap.size
  im : w.heap[w0.heap.size]? = some (.cells #[.int .i64 0, .slice none 0 0, .slice none 0 0] 38 (0, 0))
  fa : w.heap[w0.heap.size + 1]? = some (.cells #[.int .i64 0, .int .i64 0] 40 (0, 0))
theorem LB.new (w : World) : LB w ((w.alloc (.cells #[.int .i64 0, .slice none 0 0, .slice none 0 0] 38)).alloc (.cells #[.int .i64 0, .int .i64 0] 40)) := by
  refine ⟨((Below.refl _ _).alloc (Nat.le_refl _) _).alloc (by simp) _, by simp, ?_, ?_⟩
  · rw [(oalloc _ _).block _ (by simp)]; exact blk_new w _ _
  · have e : (w.alloc (.cells #[.int .i64 0, .slice none 0 0, .slice none 0 0] 38)).heap.size = w.heap.size + 1 := by simp
    rw [← e]
    exact blk_new _ _ _
theorem LB.next {w0 w w' : World} (h : LB w0 w) (hb : Below (w0.heap.size + 2) w w') : LB w0 w' :=
  ⟨h.bel.trans (hb.mono (by omega)), Nat.le_trans h.lt hb.size, by rw [hb.block _ (by omega)]; exact h.im, by rw [hb.block _ (by omega)]; exact h.fa⟩
theorem LB.go {w0 w w' : World} (h : LB w0 w) (hb : Below w.heap.size w w') : LB w0 w' := h.next (hb.mono h.lt)
theorem LB.cells {w0 w : World} (h : LB w0 w) : w.cell? ⟨w0.heap.size, 0, none⟩ = some (.int .i64 0) ∧ w.cell? ⟨w0.heap.size, 1, none⟩ = some (.slice none 0 0) ∧ w.cell? ⟨w0.heap.size, 2, none⟩ = some (.slice none 0 0) ∧
    w.cell? ⟨w0.heap.size + 1, 0, none⟩ = some (.int .i64 0) ∧ w.cell? ⟨w0.heap.size + 1, 1, none⟩ = some (.int .i64 0) ∧
    w.frozen? ⟨w0.heap.size, 0, none⟩ = false ∧ w.frozen? ⟨w0.heap.size, 1, none⟩ = false ∧ w.frozen? ⟨w0.heap.size, 2, none⟩ = false ∧ w.frozen? ⟨w0.heap.size + 1, 0, none⟩ = false ∧ w.frozen? ⟨w0.heap.size + 1, 1, none⟩ = false :=
  ⟨blk_cell h.im rfl, blk_cell h.im rfl, blk_cell h.im rfl, blk_cell h.fa rfl, blk_cell h.fa rfl, blk_froz h.im, blk_froz h.im, blk_froz h.im, blk_froz h.fa, blk_froz h.fa⟩
theorem LB.five {w0 w : World} (h : LB w0 w) (a b c d e : Value) : Below w0.heap.size w0 (((((w.setCell ⟨w0.heap.size, 0, none⟩ a).setCell ⟨w0.heap.size, 1, none⟩ b).setCell ⟨w0.heap.size, 2, none⟩ c).setCell ⟨w0.heap.size + 1, 0, none⟩ d).setCell ⟨w0.heap.size + 1, 1, none⟩ e) :=
  ((((h.bel.setCell (Nat.le_refl _) _).setCell (Nat.le_refl _) _).setCell (Nat.le_refl _) _).setCell (Nat.le_succ _) _).setCell (Nat.le_succ _) _

/-- What Link answers. -/
def LinkEnd (w0 : World) (base : Int) (r : Except (Int × Nat) (List UInt8 × List Sy)) (e : Ending) (w : World) : Prop :=
  Below w0.heap.size w0 w ∧ match r with
  | .error x => e = noV x.1 x.2
  | .ok x => ∃ bv sv, e = .returned (.tuple #[.agg #[.int .i64 base, bv, sv], .agg #[.int .i64 0, .int .i64 0]]) ∧ OBytes w bv x.1 ∧ OSyms w sv x.2

theorem wrongAt_at {nm : List UInt8 → Bool} {l : List Ob} {k : Nat} (hk : k < l.length) : wrongAt nm k (l.drop k) = if wrongO nm l[k] = 0 then wrongAt nm (k + 1) (l.drop (k + 1)) else some (wrongO nm l[k], k) := by
  rw [List.drop_eq_getElem_cons hk]; rfl

end Go.Proofs.Ytalghejeekajgad
