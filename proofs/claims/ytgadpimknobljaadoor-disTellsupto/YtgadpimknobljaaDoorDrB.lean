/- What the document's own Text keeps: the lines, and the map of what is led to. -/
import Derived.Test.YtgadpimknobljaaDoorDrA
import Derived.Test.YtgadpimknobljaaDoorDsG
import Derived.Test.YtgadpimknobljaaDoorIsaRefD
import Derived.Maps.OwnSet
import Derived.Maps.OwnOps
namespace Go.Proofs.YtgadpimknobljaaDoor
open Go.RowKit Isa Go.Maps Go.MapKept

theorem law3 : Keyed Tryd.prog 3 := int_keyed Tryd.underlying3
theorem zeroB (w : World) : (zeroValue 4).run Tryd.prog w = .ok (.bool false) w := by kernel_rfl
theorem info9 : (Tryd.prog.info? 9).map (fun i => (i.zero, i.size, i.bytes)) = some (some (.string ⟨#[]⟩), 1, 16) := by kernel_rfl
theorem info9' : ∃ i, Tryd.prog.info? 9 = some i ∧ i.zero = some (.string ⟨#[]⟩) ∧ i.size = 1 ∧ i.bytes = 16 := by
  obtain ⟨i, hi, hh⟩ := Option.map_eq_some_iff.1 info9
  simp only [Prod.mk.injEq] at hh
  exact ⟨i, hi, hh.1, hh.2.1, hh.2.2⟩

/-- Lines, cell by cell. -/
def scells (l : List (List UInt8)) : List Value := l.map fun s => .string ⟨s.toArray⟩
def rowsL (bs : Nat → Int) (len r : Nat) : List (List UInt8) := (List.range r).map (rowL bs len)
theorem rowsL_succ (bs : Nat → Int) (len r : Nat) : scells (rowsL bs len (r + 1)) = scells (rowsL bs len r) ++ [.string ⟨(rowL bs len r).toArray⟩] := by
  unfold scells rowsL
  rw [List.range_succ, List.map_append, List.map_append]
  rfl

/-- The map tells what is led to. -/
structure MB (bs : Nat → Int) (len k : Nat) (D : DataW Unit) : Prop where
  im : IsMap D
  at' : ∀ j : Nat, D.atKey (.int .i64 (2 * j)) (.lit (.bool false)) = .lit (.bool (ledB bs len k j))
theorem MB.nil (bs : Nat → Int) (len : Nat) : MB bs len 0 (.map []) := ⟨isMap_empty, fun _ => rfl⟩
theorem MB.skip {bs : Nat → Int} {len k : Nat} {D : DataW Unit} (h : MB bs len k D) (hl : leadB bs len k = false) : MB bs len (k + 1) D :=
  ⟨h.im, fun j => by rw [h.at', ledB_succ, hl]; simp⟩
theorem MB.put {bs : Nat → Int} {len k : Nat} {D : DataW Unit} (h : MB bs len k D) (hl : leadB bs len k = true) : MB bs len (k + 1) (D.put (.int .i64 (goalOf bs k)) (.lit (.bool true))) := by
  refine ⟨h.im.put _ _, fun j => ?_⟩
  rw [ledB_succ, hl]
  by_cases hj : goalOf bs k = 2 * j
  · rw [hj, atKey_put_same h.im (by trivial)]
    simp
  · rw [atKey_put_other (fun e => hj (by injection e with _ e; exact e.symm)), h.at']
    simp [hj]

theorem map_row {W : World} {base size m mb n : Nat} {e : TypeId} {v : Value} {ys : List Value} {D : DataW Unit} (h : W.ownsRow base e size v m ys) (hm : W.ownsMap Tryd.prog 3 (plainElem Tryd.prog 4) mb n D) : some mb ≠ v.ownBlock := by
  obtain ⟨es, clock, hb, _⟩ := hm
  rcases h.2 with ⟨rfl, _⟩ | ⟨g, cap, cur, rfl, _, hg, _⟩
  · simp [Value.ownBlock]
  · intro e0
    simp only [Value.ownBlock, Option.some.injEq] at e0
    subst e0
    rw [hb] at hg
    cases hg

/-- The lines of the first r half words, and what the first k lead to. -/
structure RT (bs : Nat → Int) (len : Nat) (w : World) (mb : Nat) (r k : Nat) (x : Value) (W : World) : Prop where
  bel : Below w.heap.size w W
  own : W.ownsRow w.heap.size 9 1 x r (scells (rowsL bs len r))
  mp : ∃ D, W.ownsMap Tryd.prog 3 (plainElem Tryd.prog 4) mb k D ∧ MB bs len k D
  ge : w.heap.size ≤ mb
theorem RT.next {bs : Nat → Int} {len : Nat} {w : World} {mb r k : Nat} {x : Value} {W W' : World} (h : RT bs len w mb r k x W) (hb : Below W.heap.size W W') : RT bs len w mb r k x W' := by
  have hg : W.grownBy W' none := gbelow none hb (Nat.le_refl _)
  obtain ⟨D, hm, hD⟩ := h.mp
  exact ⟨h.bel.trans (hb.mono h.bel.size), h.own.kept hg (by cases x.ownBlock <;> simp), ⟨D, hm.kept hg (by simp), hD⟩, h.ge⟩
theorem RT.app {bs : Nat → Int} {len : Nat} {w : World} {mb r k : Nat} {x x' : Value} {W W' : World} (h : RT bs len w mb r k x W) (ho : W'.ownsRow w.heap.size 9 1 x' (r + 1) (scells (rowsL bs len r) ++ [.string ⟨(rowL bs len r).toArray⟩])) (hg : W.grownBy W' x.ownBlock) : RT bs len w mb (r + 1) k x' W' := by
  obtain ⟨D, hm, hD⟩ := h.mp
  exact ⟨h.bel.grown hg h.bel.size (fun j hj => (h.own.lt j hj).1), by rw [rowsL_succ]; exact ho, ⟨D, hm.kept hg (map_row h.own hm), hD⟩, h.ge⟩
theorem RT.skip {bs : Nat → Int} {len : Nat} {w : World} {mb r k : Nat} {x : Value} {W : World} (h : RT bs len w mb r k x W) (hl : leadB bs len k = false) : RT bs len w mb r (k + 1) x W := by
  obtain ⟨D, hm, hD⟩ := h.mp
  exact ⟨h.bel, h.own, ⟨D, hm.mono (Nat.le_succ _), hD.skip hl⟩, h.ge⟩
theorem key3 (n : Int) (h0 : -9223372036854775808 ≤ n) (h1 : n ≤ 9223372036854775807) : keyOf Tryd.prog 3 (.int .i64 n) = some (.int .i64 n) :=
  keyOf_int_mk Tryd.underlying3 (by simp [Lit.wf, IntKind.min, IntKind.max, IntKind.bits, IntKind.signed]; omega)
/-- What a store into the map does. -/
theorem RT.put {bs : Nat → Int} {len : Nat} {w : World} {mb r k : Nat} {x : Value} {W : World} (h : RT bs len w mb r k x W) (hl : leadB bs len k = true) (hk : k < 1048577) (h0 : -9223372036854775808 ≤ goalOf bs k) (h1 : goalOf bs k ≤ 9223372036854775807) :
    ∃ W', (Instr.mapUpdate 47 (.map (some mb)) (.int .i64 (goalOf bs k)) (.bool true)).run Tryd.prog W = .ok () W' ∧ RT bs len w mb r (k + 1) x W' ∧ W.grownBy W' (some mb) := by
  obtain ⟨D, hm, hD⟩ := h.mp
  obtain ⟨W', hrun, ho, hg⟩ := hm.update law3 Tryd.underlying47 (by unfold maxLen; omega) (key3 _ h0 h1) (plainElem_bool Tryd.underlying4 true)
  refine ⟨W', hrun, ⟨h.bel.grown hg h.bel.size (fun j hj => by cases hj; exact h.ge), h.own.kept hg ?_, ⟨_, ho, hD.put hl⟩, h.ge⟩, hg⟩
  by_cases hx : x.ownBlock = none
  · exact Or.inl hx
  · exact Or.inr fun e => map_row h.own hm e.symm
/-- What a look-up tells. -/
theorem RT.look {bs : Nat → Int} {len : Nat} {w : World} {mb r k : Nat} {x : Value} {W : World} (h : RT bs len w mb r k x W) (j : Nat) (a : Int) (ha : a = 2 * j) (h1 : a ≤ 9223372036854775807) :
    (Instr.lookup 47 (.map (some mb)) (.int .i64 a) false).run Tryd.prog W = .ok (.bool (ledB bs len k j)) W := by
  subst ha
  obtain ⟨D, hm, hD⟩ := h.mp
  obtain ⟨v, ps, hrun, hv⟩ := hm.lookup law3 Tryd.underlying47 (zeroB W) (plainElem_bool Tryd.underlying4 false) (key3 _ (by omega) h1)
  rw [hD.at'] at hv
  rw [hrun]
  have hvb : v = .bool (ledB bs len k j) := by
    unfold plainElem at hv
    rw [Tryd.underlying4] at hv
    cases v <;> simp at hv
    rw [hv.1]
  rw [hvb]
theorem RT.shape {bs : Nat → Int} {len : Nat} {w : World} {mb r k : Nat} {x : Value} {W : World} (h : RT bs len w mb r k x W) : ∃ ad cap, x = .slice ad r cap ∧ (0 < r → ∃ g, ad = some ⟨g, 0, none⟩ ∧ w.heap.size ≤ g) := by
  rcases h.own.2 with ⟨rfl, rfl⟩ | ⟨g, cap, cur, rfl, hb, _⟩
  · exact ⟨none, 0, rfl, fun h => absurd h (by decide)⟩
  · exact ⟨_, _, rfl, fun _ => ⟨g, rfl, hb⟩⟩
theorem RT.cell {bs : Nat → Int} {len : Nat} {w : World} {mb r k g cap : Nat} {W : World} (h : RT bs len w mb r k (.slice (some ⟨g, 0, none⟩) r cap) W) (j : Nat) (hj : j < r) : W.cell? ⟨g, j, none⟩ = some (.string ⟨(rowL bs len j).toArray⟩) := by
  rw [h.own.cellAt j (by omega)]
  simp [scells, rowsL, hj]

end Go.Proofs.YtgadpimknobljaaDoor
