/- The contract of the law: what the program tells of machines is what the document's own answer tells. -/
import Derived.Test.YtabepbaldadmgaaDoorSqA
import Derived.Test.YtabepbaldadmgaaDoorSnZ
import Derived.Test.YtabepbaldadmgaaDoorPut9
namespace Go.Proofs.YtabepbaldadmgaaDoor
open Go.RowKit Isa

theorem take_row {P : Program} {md : Region.Mode} {ops : Array Oper} {Q : Exit → Act → World → Prop} {S : World → Prop} (i d : Nat) {oi : Oper} {fuel : Nat} {listed : Array Bool} {T : Array Value} {D : List Deferred} {w : World} (hi : ops[i]? = some oi) (hd : oi.dst = some d)
    (hs : Region.noSelect ops = true) (hf : Region.free md ops listed i = true) (hr : (Region.ready md ops listed).contains i = true) (g : Nat) (t : TypeId) (cs : Array Value) (fr : Nat × Nat) (dd : TypeDesc) (ty : TypeId) (x : Operand)
    (hQ : ∀ c a w, Q (.panic c) (a.put oi.dst (.agg cs)) w → Q (.panic c) a w) (hw : Region.wanted oi (yielded ops T) = true) (ho : oi.op = .load ty x) (hx : Act.eval ⟨T, D⟩ x = .pointer (some ⟨g, 0, none⟩)) (hg : ∀ w, S w → w.heap[g]? = some (.cells cs t fr))
    (hu : P.underlying ty = some dd) (hdd : (match dd with | .struct _ | .array _ _ => true | _ => false) = true) (hsz : (P.info? ty).map (·.size) = some cs.size) (hS : S w)
    (h : wpAnyH P md ops Q S fuel (listed.setIfInBounds i true) ⟨T.setIfInBounds d (.agg cs), D⟩ w) : wpAnyH P md ops Q S (fuel + 1) listed ⟨T, D⟩ w :=
  take_at i d (v := .agg cs) hi hd hs hf hr hQ hw (fun w hSw => by
    unfold execOp
    simp only [ho, hx, Instr.loadAt, Instr.sureAddr, Sem.run_bind, Sem.run_pure, Result.andThen_ok, run_loadVar_row w g t ty cs fr dd (hg w hSw) hu hdd hsz]) hS h

/-- What Step answers as a machine, and its names. -/
def stM (m : Ma) : Ma := if stepE m = 0 then stepM m else zeroM
def stS (m : Ma) (sy : List Sy) : List Sy := if stepE m = 0 then sy else []
def rnM (n : Nat) (m : Ma) : Ma := if runE n m = 0 then runM n m else zeroM
def rnS (n : Nat) (m : Ma) (sy : List Sy) : List Sy := if runE n m = 0 then sy else []
/-- How much a machine holds. -/
def Few (m : Ma) (sy : List Sy) : Prop := m.by'.length ≤ 140737488355328 ∧ sy.length ≤ 140737488355328 ∧ m.told.length ≤ 140737488355328
theorem Few.zero : Few zeroM [] := ⟨by decide, by decide, by decide⟩
theorem Few.of {m : Ma} {sy : List Sy} {k : Nat} (h : Runs m k) (hk : k ≤ 100000) (hs : sy.length ≤ 1048576) : Few m sy := ⟨by have := h.bl; omega, by omega, by have := h.tl; omega⟩
theorem MVp.zero (P : Nat → Prop) (w : World) : MVp P w (.agg zC) zeroM [] := ⟨none, 0, none, 0, none, 0, rfl, fun h => absurd h (by decide), fun h => absurd h (by decide), fun h => absurd h (by decide), fun _ h _ => (by cases h), fun _ h _ => (by cases h), fun _ h _ => (by cases h)⟩
theorem MVb.p {B : Nat} {w : World} {v : Value} {m : Ma} {sy : List Sy} (h : MVb B w v m sy) : MVp (fun b => B ≤ b) w v m sy := h
theorem MVp.form {P : Nat → Prop} {w : World} {v : Value} {m : Ma} {sy : List Sy} (h : MVp P w v m sy) : ∃ c, v = .agg c ∧ (Tryd.prog.info? 29).map (·.size) = some c.size ∧ c.all (·.oneCell') = true ∧ c.size = 24 := by
  obtain ⟨ba, bc, s0, s2, ta, tc, e, _⟩ := h
  exact ⟨_, e, mSize _ _ _ _ _ _, mAll _ _ _ _ _ _ _ _, rfl⟩
/-- A box that holds a machine's cells. -/
def Bx (W : World) (q : Nat) (c : Array Value) : Prop := W.heap[q]? = some (.cells c 29 (0, 0))
theorem Bx.next {W W' : World} {q : Nat} {c : Array Value} (h : Bx W q c) (hb : Below W.heap.size W W') : Bx W' q c := (hb.block _ (Array.getElem?_eq_some_iff.1 h).1).trans h
theorem Bx.lt {W : World} {q : Nat} {c : Array Value} (h : Bx W q c) : q < W.heap.size := (Array.getElem?_eq_some_iff.1 h).1

theorem brd_row {W : World} {g : Nat} {l : List UInt8} (h : W.heap[g]? = some (.cells (mcells l).toArray 5 (0, 0))) : BRd W (some ⟨g, 0, none⟩) l := fun _ => by
  refine ⟨g, 0, rfl, (Array.getElem?_eq_some_iff.1 h).1, fun i hi => ?_⟩
  rw [Nat.zero_add]
  refine cell_of_block h ?_
  simp [mcells, bsOf, hi, List.getD]
theorem trd_row {W : World} {g : Nat} {l : List Int} (h : W.heap[g]? = some (.cells (icells l).toArray 3 (0, 0))) : TRd W (some ⟨g, 0, none⟩) l := fun _ => by
  refine ⟨g, 0, rfl, (Array.getElem?_eq_some_iff.1 h).1, fun i hi => ?_⟩
  rw [Nat.zero_add]
  refine cell_of_block h ?_
  simp [icells, hi, List.getD]

/-- The document's own New. -/
theorem rnew_any (base : Int) (n : Nat) (l : List UInt8) (ba : Option Addr) (bc : Nat) (s0 : Option Addr) (s1 s2 : Nat) (w : World) (hn : n = l.length) :
    Calls Tryd.prog 12 #[.agg #[.int .i64 base, .slice ba n bc, .slice s0 s1 s2]] w fun e w' => e = .returned (.agg (mC (newM base l) ba bc (.slice s0 s1 s2) none 0)) ∧ Below w.heap.size w w' := by
  subst hn
  have HA : Hid (∀ o o', Below w.heap.size w ((w.alloc o).alloc o')) := fun o o' => (oalloc w o).alloc (by simp) o'
  have HN : Hid (∀ o : Obj, Bx ((w.alloc o).alloc (.cells #[.int .i64 0, .int .i64 0, .int .i64 0, .int .i64 0, .int .i64 0, .int .i64 0, .int .i64 0, .int .i64 0, .int .i64 0, .int .i64 0, .int .i64 0, .int .i64 0, .int .i64 0, .int .i64 0, .int .i64 0, .int .i64 0, .bool false, .int .i64 0, .int .i64 0, .int .i64 0, .slice none 0 0, .slice none 0 0, .slice none 0 0, .int .i64 0] 29)) (w.heap.size + 1) #[.int .i64 0, .int .i64 0, .int .i64 0, .int .i64 0, .int .i64 0, .int .i64 0, .int .i64 0, .int .i64 0, .int .i64 0, .int .i64 0, .int .i64 0, .int .i64 0, .int .i64 0, .int .i64 0, .int .i64 0, .int .i64 0, .bool false, .int .i64 0, .int .i64 0, .int .i64 0, .slice none 0 0, .slice none 0 0, .slice none 0 0, .int .i64 0]) := fun o => by
    have := blk_new (w.alloc o) #[.int .i64 0, .int .i64 0, .int .i64 0, .int .i64 0, .int .i64 0, .int .i64 0, .int .i64 0, .int .i64 0, .int .i64 0, .int .i64 0, .int .i64 0, .int .i64 0, .int .i64 0, .int .i64 0, .int .i64 0, .int .i64 0, .bool false, .int .i64 0, .int .i64 0, .int .i64 0, .slice none 0 0, .slice none 0 0, .slice none 0 0, .int .i64 0] 29
    unfold Bx
    simpa using this
  go_enter Tryd.func12, Tryd.ntmps12
  go_wp2_with (refine wpList_store_row rfl 29 _ _ rfl (w.heap.size + 1) (mC (newM base l) ba bc (.slice s0 s1 s2) none 0) rfl rfl 29 #[.int .i64 0, .int .i64 0, .int .i64 0, .int .i64 0, .int .i64 0, .int .i64 0, .int .i64 0, .int .i64 0, .int .i64 0, .int .i64 0, .int .i64 0, .int .i64 0, .int .i64 0, .int .i64 0, .int .i64 0, .int .i64 0, .bool false, .int .i64 0, .int .i64 0, .int .i64 0, .slice none 0 0, .slice none 0 0, .slice none 0 0, .int .i64 0] (HN.out _) (mSize _ _ _ _ _ _) rfl (mAll _ _ _ _ _ _ _ _) ?_)
  exact bodyPost_ret (v := .agg (mC (newM base l) ba bc (.slice s0 s1 s2) none 0)) (results_cell_row Tryd.results12 _ _ (w.heap.size + 1) 29 (mC (newM base l) ba bc (.slice s0 s1 s2) none 0) (0, 0) _ rfl (setRow_heap _ _ _ _ _ _ (HN.out _)) Tryd.underlying29 rfl (mSize _ _ _ _ _ _)) rfl ⟨rfl, below_setRow (HA.out _ _) (by omega) _⟩

end Go.Proofs.YtabepbaldadmgaaDoor
