/- The document's own Bytes: numbers as bytes, and laws for its regions. -/
import Derived.Test.YtobdcnpifbnjaacObRef
import Derived.Test.YtobdcnpifbnjaacOcAlive
import Derived.Lib.ConvBytes
namespace Go.Proofs.Ytobdcnpifbnjaac
open Go.RowKit

/-- Take number i first: what it yields lies in slot d. -/
theorem take_at {P : Program} {md : Region.Mode} {ops : Array Oper} {Q : Exit → Act → World → Prop} {S : World → Prop} (i d : Nat) {oi : Oper} {v : Value} {fuel : Nat} {listed : Array Bool} {T : Array Value} {D : List Deferred} {w : World} (hi : ops[i]? = some oi) (hd : oi.dst = some d)
    (hs : Region.noSelect ops = true) (hf : Region.free md ops listed i = true) (hr : (Region.ready md ops listed).contains i = true)
    (hQ : ∀ c a w, Q (.panic c) (a.put oi.dst v) w → Q (.panic c) a w) (hw : Region.wanted oi (yielded ops T) = true) (hy : ∀ w, S w → (execOp (Act.eval ⟨T, D⟩) oi).run P w = .ok (.value v) w) (hS : S w)
    (h : wpAnyH P md ops Q S fuel (listed.setIfInBounds i true) ⟨T.setIfInBounds d v, D⟩ w) : wpAnyH P md ops Q S (fuel + 1) listed ⟨T, D⟩ w := by
  refine wpAnyH_take hi hs hf hr hQ (Or.inl ⟨hw, hy⟩) hS ?_
  rw [hd]
  exact h

set_option maxHeartbeats 1000000 in
theorem rn_any (n : Int) (w : World) (hn : -9223372036854775808 ≤ n ∧ n ≤ 9223372036854775807) :
    Calls Try.prog 14 #[.int .i64 n] w fun e w' => e = .returned (.slice (some ⟨w.heap.size, 0, none⟩) 4 4) ∧ w' = w.alloc (.cells (bcells (be4 n)).toArray 5) := by
  obtain ⟨h1, h2⟩ := hn
  go_enter Try.func14, Try.ntmps14
  go_wp2
  go_ret
  refine ⟨rfl, ?_⟩
  simp [bcells, be4, lowB_nat]

/-- An append whose run is known, as a step of a region that draws. -/
theorem step_app_eq {P : Program} {ops : Array Oper} {o : Oper} {a : Act} {w : World} {K : Act → World → Prop} {Q : Exit → Act → World → Prop} {E : Prop} (hgd : o.guard = none) (d : Nat) (hd : o.dst = some d) (sl x : Operand) (t u : TypeId)
    (ho : o.op = .call { callee := .builtin .append, args := #[sl, x], argTypes := #[t, u] }) (v v2 : Value) (hs : a.eval sl = v) (hx : a.eval x = v2) {v' : Value} {w' : World}
    (hr : ∀ ty, (Builtin.append_ #[t, u] ty #[v, v2]).run P w = .ok v' w') (h : K ⟨a.tmps.setIfInBounds d v', a.defers⟩ w') : if Region.wanted o (yielded ops a.tmps) = true then Oper.wp P o a w K Q else E := by
  have hw : Region.wanted o (yielded ops a.tmps) = true := by simp [Region.wanted, hgd]
  rw [if_pos hw]
  have hr := hr o.type
  unfold Oper.wp execOp
  simp only [ho, resolve, invoke, builtin, Sem.run_bind, Sem.run_pure, Result.andThen_ok, List.map_toArray, List.map_cons, List.map_nil, hs, hx, hr]
  show K (a.put o.dst v') w'
  rw [hd]
  exact h

/-- Bytes that wait to be appended. -/
def Pend (W : World) (v : Value) (g : Nat) (news : List UInt8) : Prop := (∀ j u, (bcells news)[j]? = some u → W.cell? ⟨g, j, none⟩ = some u) ∧ g < W.heap.size ∧ some g ≠ v.ownBlock
/-- What is kept within a round: besides, the box of the entry. -/
structure RK (w0 W : World) (N : Nat) (cv sv rv v : Value) (l : List UInt8) (B : Nat) (bx : Array Value) (bt : TypeId) : Prop where
  bk : BK w0 W N cv sv rv v l
  bx : W.heap[B]? = some (.cells bx bt (0, 0))
  bt : bt ≠ 5

section
variable {w0 W : World} {N : Nat} {cv sv rv v : Value} {l : List UInt8} {B : Nat} {bx : Array Value} {bt : TypeId}
theorem RK.grow {W' : World} (h : RK w0 W N cv sv rv v l B bx bt) (hb : Below W.heap.size W W') : RK w0 W' N cv sv rv v l B bx bt :=
  ⟨⟨h.bk.out.below hb (Nat.le_refl _), h.bk.bel.trans (hb.mono (Nat.le_trans (Nat.le_succ _) h.bk.out.2)), by rw [hb.block _ (Array.getElem?_eq_some_iff.1 h.bk.box).1]; exact h.bk.box⟩, by rw [hb.block _ (Array.getElem?_eq_some_iff.1 h.bx).1]; exact h.bx, h.bt⟩
theorem Pend.grow {W' : World} {g : Nat} {news : List UInt8} (h : Pend W v g news) (hb : Below W.heap.size W W') : Pend W' v g news :=
  ⟨fun j u hj => by rw [hb.cell (by exact h.2.1)]; exact h.1 j u hj, Nat.lt_of_lt_of_le h.2.1 hb.size, h.2.2⟩
theorem pend_alloc (h : RK w0 W N cv sv rv v l B bx bt) {c : Array Value} {news : List UInt8} (hc : c.toList = bcells news) : Pend (W.alloc (.cells c 5)) v W.heap.size news := by
  refine ⟨fun j u hj => ?_, by simp, fun e => ?_⟩
  · refine cell_of_block (heap_alloc_new W (.cells c 5)) ?_
    rw [← hc] at hj
    simpa using hj
  · have := (h.bk.out.lt _ e.symm).2
    omega
theorem below_bytes (W : World) (s : ByteArray) : Below W.heap.size W (Lib.bytesWorld W 5 s) :=
  ⟨by simp [Lib.bytesWorld, World.freeze, World.alloc, World.drew, -World.alloc_eq, -World.drew_eq], by simp [Lib.bytesWorld, World.freeze, World.alloc, World.drew, -World.alloc_eq, -World.drew_eq], by simp [Lib.bytesWorld, World.freeze, World.alloc, World.drew, -World.alloc_eq, -World.drew_eq], by rw [Lib.bytesWorld_size]; omega, fun k hk => Lib.bytesWorld_at_old W 5 s k hk⟩
theorem pend_bytes (h : RK w0 W N cv sv rv v l B bx bt) (s : List UInt8) : Pend (Lib.bytesWorld W 5 ⟨s.toArray⟩) v W.heap.size s := by
  refine ⟨fun j u hj => ?_, by rw [Lib.bytesWorld_size]; omega, fun e => ?_⟩
  · obtain ⟨hj1, hj2⟩ := List.getElem?_eq_some_iff.1 hj
    have hj3 : j < s.length := by simpa [bcells] using hj1
    rw [Lib.bytesWorld_cell _ _ _ _ (by simpa [ByteArray.size] using hj3), ← hj2]
    simp [bcells, List.getD, hj3]
  · have := (h.bk.out.lt _ e.symm).2
    omega
/-- The append: where the new row lies, and what else waits. -/
theorem RK.app (h : RK w0 W N cv sv rv v l B bx bt) {g : Nat} {news : List UInt8} (m c : Nat) (hm : news.length = m) (hp : Pend W v g news) (hl : l.length + m ≤ 140737488355328) :
    ∃ v' w', (∀ ty, (Builtin.append_ #[22, 22] ty #[v, .slice (some ⟨g, 0, none⟩) m c]).run Try.prog W = .ok v' w') ∧ RK w0 w' N cv sv rv v' (l ++ news) B bx bt ∧ (∀ g' n', Pend W v g' n' → Pend w' v' g' n') := by
  obtain ⟨i, hi, hz0, hz1, hz2⟩ := info_parts infoB
  obtain ⟨v', w', hr, h2, h3, _, h5⟩ := run_append_own_at (P := Try.prog) W (N + 1) 22 0 5 i _ 1 1 Try.underlying22 hi hz0 hz1 hz2 rfl (by decide) v l.length (bcells l) h.bk.out.1 ⟨g, 0, none⟩ m c (bcells news) (by rw [bcells_len, hm]) (fun j u hj => by rw [addr_add, Nat.zero_add]; exact hp.1 j u hj) (bcells_one news) (by unfold maxLen; omega) (by omega) h.bk.out.2
  have ho : Out w' (N + 1) v' (l ++ news) := ⟨by rw [bcells_app, List.length_append, hm]; exact h2, Nat.le_trans h.bk.out.2 h3.size⟩
  refine ⟨v', w', fun ty => hr, ⟨h.bk.step ho h3, h.bk.out.box h3 h.bx h.bt, h.bt⟩, fun g' n' hp' => ?_⟩
  refine ⟨fun j u hj => h3.cell (hp'.1 j u hj) hp'.2.2, Nat.lt_of_lt_of_le hp'.2.1 h3.size, fun e => ?_⟩
  rcases h5 with h5 | h5
  · exact hp'.2.2 (e.trans h5)
  · rw [h5] at e
    have := hp'.2.1
    cases e
    omega
end

end Go.Proofs.Ytobdcnpifbnjaac
