/- The contract of scan's Lines. -/
import Derived.Test.YtajeijhmlkbjgaaDoorLinesA
namespace Go.Proofs.YtajeijhmlkbjgaaDoor
open Go.RowKit

/-- A list of lines that the call has made: the lines, each with its slice of tokens. -/
def lcells (ps : List (Ln × Value)) : List Value := ps.flatMap fun p => [.int .i64 p.1.pos, p.2]

structure LOwn (w : World) (base : Nat) (v : Value) (ps : List (Ln × Value)) : Prop where
  row : w.ownsRow base 64 2 v ps.length (lcells ps)
  toks : ∀ p, p ∈ ps → w.ownsRow base 84 3 p.2 p.1.toks.length (tcells p.1.toks)

theorem LOwn.nil (w : World) (base : Nat) : LOwn w base (.slice none 0 0) [] := ⟨World.ownsRow_nil _ _ _ _, fun p h => by simp at h⟩

theorem owns_below {w w' : World} {base n B : Nat} {e : TypeId} {size : Nat} {v : Value} {xs : List Value} (h : w.ownsRow base e size v n xs) (hb : Below B w w') (hB : w.heap.size ≤ B) : w'.ownsRow base e size v n xs := by
  refine ⟨h.1, ?_⟩
  rcases h.2 with h | ⟨g, cap, cur, rfl, hg, hgg, rest⟩
  · exact Or.inl h
  · refine Or.inr ⟨g, cap, cur, rfl, hg, ?_, rest⟩
    have := (Array.getElem?_eq_some_iff.1 hgg).1
    rw [hb.block g (by omega)]
    exact hgg

theorem LOwn.below {w w' : World} {base B : Nat} {v : Value} {ps : List (Ln × Value)} (h : LOwn w base v ps) (hb : Below B w w') (hB : w.heap.size ≤ B) : LOwn w' base v ps :=
  ⟨owns_below h.row hb hB, fun p hp => owns_below (h.toks p hp) hb hB⟩

/-- A row of tokens isn't the row of lines. -/
theorem tok_kept {w w' : World} {b b' n n' : Nat} {tv v : Value} {xs ys : List Value} (h : w.ownsRow b 84 3 tv n xs) (hv : w.ownsRow b' 64 2 v n' ys) (hg : w.grownBy w' v.ownBlock) : w'.ownsRow b 84 3 tv n xs := by
  refine h.kept hg ?_
  rcases h.2 with ⟨rfl, _⟩ | ⟨g, cap, cur, rfl, _, hgg, _⟩
  · exact Or.inl rfl
  · refine Or.inr ?_
    rcases hv.2 with ⟨rfl, _⟩ | ⟨g', cap', cur', rfl, _, hgg', _⟩
    · simp [Value.ownBlock]
    · intro e
      simp [Value.ownBlock] at e
      subst e
      rw [hgg] at hgg'
      simp at hgg'

theorem lcells_app (ps : List (Ln × Value)) (p : Ln × Value) : lcells (ps ++ [p]) = lcells ps ++ [.int .i64 p.1.pos, p.2] := by simp [lcells]

theorem info64 : (Tryd.prog.info? 64).map (fun i => (i.zero, i.size, i.bytes)) = some (some (.agg #[.int .i64 0, .slice none 0 0]), 2, 32) := by kernel_rfl

theorem linesR_err {n : Nat} {l : List UInt8} {r : List (List UInt8)} (h : lineErr l ≠ 0) : linesR n (l :: r) = .error (lineErr l, n) := by
  rw [linesR, if_neg h]

def addLn (done : List Ln) : Except (Int × Int) (List Ln) → Except (Int × Int) (List Ln)
  | .error e => .error e
  | .ok ls => .ok (done ++ ls)

theorem linesR_none {n : Nat} {l : List UInt8} {r : List (List UInt8)} {done : List Ln} {X : Except (Int × Int) (List Ln)} (hX : X = addLn done (linesR n (l :: r))) (h : lineErr l = 0) (he : lineList l = []) : X = addLn done (linesR (n + 1) r) := by
  rw [hX, linesR, if_pos h, he]
  cases linesR (n + 1) r <;> simp [addLn]
theorem linesR_some {n : Nat} {l : List UInt8} {r : List (List UInt8)} {done : List Ln} {X : Except (Int × Int) (List Ln)} (hX : X = addLn done (linesR n (l :: r))) (h : lineErr l = 0) (he : lineList l ≠ []) : X = addLn (done ++ [⟨n, lineList l⟩]) (linesR (n + 1) r) := by
  rw [hX, linesR, if_pos h]
  cases linesR (n + 1) r <;> simp [addLn, he]

/-- What Lines answers. -/
def LinAns (base : Nat) (w' : World) (bs : List UInt8) (e : Ending) : Prop :=
  ∃ v ps, e = .returned (.tuple #[v, .agg #[.int .i64 (srcErr bs), .int .i64 (srcAt bs)]]) ∧ ps.map (·.1) = srcList bs ∧ LOwn w' base v ps

theorem lines_much (v : Value) (bs : List UInt8) (w : World) (hv : BReads w v bs) (h : 1200 < bs.length) :
    Calls Tryd.prog 34 #[v] w fun e w' => LinAns w.heap.size w' bs e ∧ Below w.heap.size w w' := by
  obtain ⟨ad, cap, rfl, hm, _⟩ := hv
  have HF : Hid (srcErr bs = 4 ∧ srcAt bs = 0 ∧ srcList bs = []) := by
    unfold Hid srcErr srcAt srcList srcLines
    rw [if_pos h]
    exact ⟨rfl, rfl, rfl⟩
  have h' : (1200 : Int) < bs.length := by omega
  unfold maxLen at hm
  go_enter Tryd.func34, Tryd.ntmps34
  go_wp2
  refine bodyPost_ret (v := .tuple #[.slice none 0 0, .agg #[.int .i64 4, .int .i64 0]]) (by simp [results, Tryd.results34, go_sem]) rfl ⟨⟨_, [], by rw [HF.out.1, HF.out.2.1], by rw [HF.out.2.2]; rfl, LOwn.nil _ _⟩, (Below.refl _ _).alloc (Nat.le_refl _) _⟩

end Go.Proofs.YtajeijhmlkbjgaaDoor
