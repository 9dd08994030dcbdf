import Derived.Test.YtgjmbjahgcndnaaGreatDoorIsaRefB
import Derived.Test.YtgjmbjahgcndnaaGreatDoorPut10
import Derived.Lib.AppendStr
import Derived.Lib.SlBytesConst
namespace Go.Proofs.YtgjmbjahgcndnaaGreatDoor.Si
open Go.RowKit Isa
structure Ma where
 r : Nat -> Int
 t : Bool
 pc : Int
 pr : Int
 base : Int
 by' : List UInt8
 told : List Int
 st : Int
def bsOf (l : List UInt8) (i : Nat) : Int := ((l.getD i 0).toNat : Int)
theorem qKl (l : List UInt8) : qHb (bsOf l) := fun i => by
 have := (l.getD i 0).toNat_lt
 unfold bsOf; omega
def hasB (m : Ma) (a size : Int) : Bool := decide (m.base <= a) && (decide (a % size = 0) && decide (a + size <= m.base + m.by'.length))
def qBW (m : Ma) (a : Int) : Int := qCk (bsOf m.by') m.by'.length (a - m.base) 2
def qt (m : Ma) (a : Int) : Int := if hasB m a 2 = true then decE (qBW m a) else 6
def qBo (op : Int) : Bool := decide (op = 2) || (decide (17 <= op) && decide (op <= 22))
def mC (m : Ma) (ba : Option Addr) (bc : Nat) (sv : Value) (ta : Option Addr) (tc : Nat) : Array Value := #[.int .i64 (m.r 0), .int .i64 (m.r 1), .int .i64 (m.r 2), .int .i64 (m.r 3), .int .i64 (m.r 4), .int .i64 (m.r 5), .int .i64 (m.r 6), .int .i64 (m.r 7), .int .i64 (m.r 8), .int .i64 (m.r 9), .int .i64 (m.r 10), .int .i64 (m.r 11), .int .i64 (m.r 12), .int .i64 (m.r 13), .int .i64 (m.r 14), .int .i64 (m.r 15), .bool m.t, .int .i64 m.pc, .int .i64 m.pr, .int .i64 m.base, .slice ba m.by'.length bc, sv, .slice ta m.told.length tc, .int .i64 m.st]
theorem qHL {m : Ma} {a size : Int} (h : hasB m a size = true) : m.base <= a /\ a % size = 0 /\ a + size <= m.base + m.by'.length := by
 unfold hasB at h
 simpa using h
def BRd (w : World) (ba : Option Addr) (l : List UInt8) : Prop := 0 < l.length -> ∃ b off, ba = some ⟨b, off, none⟩ /\ b < w.heap.size /\ ∀ i, i < l.length -> w.cell? ⟨b, off + i, none⟩ = some (.int .u8 (bsOf l i))
theorem BRd.next {w w' : World} {ba : Option Addr} {l : List UInt8} (h : BRd w ba l) (hb : Below w.heap.size w w') : BRd w' ba l := fun h0 => by
 obtain ⟨b, off, e, hl, hc⟩ := h h0
 exact ⟨b, off, e, Nat.lt_of_lt_of_le hl hb.size, fun i hi => (hb.cell (p := ⟨b, off + i, none⟩) hl).trans (hc i hi)⟩
theorem qD {w : World} {b i : Nat} {c : Array Value} {t : TypeId} (h : w.heap[b]? = some (.cells c t (0, 0))) : w.frozen? ⟨b, i, none⟩ = false := by
 unfold World.frozen?
 simp only [h]
 simp
theorem qK (w : World) (c : Array Value) (t : TypeId) : (w.alloc (.cells c t)).heap[w.heap.size]? = some (.cells c t (0, 0)) := by
 unfold World.alloc
 simp only [Array.getElem?_push_size]
theorem four {w W : World} {B : Nat} (h : Below B w W) {b : Nat} (hb : B <= b) (x0 x1 x2 x3 : Value) : Below B w ((((W.setCell ⟨b, 0, none⟩ x0).setCell ⟨b, 1, none⟩ x1).setCell ⟨b, 2, none⟩ x2).setCell ⟨b, 3, none⟩ x3) :=
 (((h.setCell hb _).setCell hb _).setCell hb _).setCell hb _
def fV (m : Ma) (a : Int) (i : Nat) : Int := if hasB m a 2 = true then dV (qBW m a) i else 0
theorem fV_bd (m : Ma) (a : Int) : 0 <= fV m a 1 /\ fV m a 1 <= 15 /\ 0 <= fV m a 2 /\ fV m a 2 <= 15 /\ -10000 <= fV m a 3 /\ fV m a 3 <= 10000 := by
 unfold fV
 obtain ⟨_, h⟩ := dV_all (qBW m a)
 split
 ·exact h
 ·omega
theorem qBg (m : Ma) (ba : Option Addr) (bc : Nat) (sv : Value) (ta : Option Addr) (tc : Nat) : (Tryz.prog.info? 41).map (·.size) = some (mC m ba bc sv ta tc).size := by kernel_rfl
def newM (base : Int) (l : List UInt8) : Ma := ⟨fun _ => 0, false, base, -1, base, l, [], 0⟩
end Go.Proofs.YtgjmbjahgcndnaaGreatDoor.Si
namespace Go.Proofs.YtgjmbjahgcndnaaGreatDoor.Li
open Go.RowKit
def qh (l : List UInt8) : List Value := l.map fun c => .int .u8 (c.toNat : Int)
def Sy.cells (s : Sy) : List Value := [.string ⟨s.name.toArray⟩, .int .i64 s.pos]
def qT (l : List Sy) : List Value := l.flatMap Sy.cells
theorem qDW (l : List UInt8) : (qh l).length = l.length * 1 := by simp [qh]
theorem qBE : ∀ (l : List Sy) (i : Nat) (h : i < l.length), (qT l)[i * 2]? = some (.string ⟨l[i].name.toArray⟩) /\ (qT l)[i * 2 + 1]? = some (.int .i64 l[i].pos)
 | x :: l, 0, _ => ⟨rfl, rfl⟩
 | x :: l, i + 1, h => by
   have ih := qBE l i (by simpa using h)
   have e : qT (x :: l) = .string ⟨x.name.toArray⟩ :: .int .i64 x.pos :: qT l := rfl
   rw [e, show (i + 1) * 2 = i * 2 + 1 + 1 by omega]
   exact ih
theorem qDV (l : List UInt8) : ∀ v ∈ qh l, v.oneCell' = true := by
 intro v hv
 obtain ⟨c, _, rfl⟩ := List.mem_map.1 hv
 rfl
theorem qAS (b o j : Nat) : (⟨b, o, none⟩ : Addr).add j = ⟨b, o + j, none⟩ := by unfold Addr.add; split <;> simp_all
theorem qGO : (Tryz.prog.info? 5).map (fun i => (i.zero, i.size, i.bytes)) = some (some (.int .u8 0), 1, 1) := by kernel_rfl
theorem qJn : (Tryz.prog.info? 81).map (fun i => (i.zero, i.size, i.bytes)) = some (some (.agg #[.string ⟨#[]⟩, .int .i64 0]), 2, 24) := by kernel_rfl
def Out (w : World) (base : Nat) (v : Value) (l : List UInt8) : Prop := w.ownsRow base 5 1 v l.length (qh l) /\ base <= w.heap.size
theorem Out.lt {w : World} {base : Nat} {v : Value} {l : List UInt8} (h : Out w base v l) : ∀ k, v.ownBlock = some k -> base <= k /\ k < w.heap.size := h.1.lt
theorem Out.other {w : World} {base : Nat} {v : Value} {l : List UInt8} (h : Out w base v l) {b : Nat} {c : Array Value} {t : TypeId} {f : Nat × Nat} (hb : w.heap[b]? = some (.cells c t f)) (ht : t ≠ 5) : some b ≠ v.ownBlock := by
 rcases h.1.2 with ⟨rfl, _⟩ | ⟨g, cap, cur, rfl, _, hg, _⟩
 ·simp [Value.ownBlock]
 ·intro e
  simp only [Value.ownBlock, Option.some.injEq] at e
  subst e
  rw [hb] at hg
  injection hg with hg
  injection hg with _ h2
  exact ht h2
theorem Out.box {w w' : World} {base : Nat} {v : Value} {l : List UInt8} (h : Out w base v l) (hg : w.grownBy w' v.ownBlock) {b : Nat} {c : Array Value} {t : TypeId} {f : Nat × Nat} (hb : w.heap[b]? = some (.cells c t f)) (ht : t ≠ 5) : w'.heap[b]? = some (.cells c t f) := by
 rw [hg.block b (Array.getElem?_eq_some_iff.1 hb).1 (h.other hb ht)]
 exact hb
theorem Out.below {w w' : World} {base B : Nat} {v : Value} {l : List UInt8} (h : Out w base v l) (hb : Below B w w') (hB : w.heap.size <= B) : Out w' base v l :=
 ⟨h.1.kept (ogbelow none hb hB) (by cases v.ownBlock <;> simp), Nat.le_trans h.2 hb.size⟩
theorem Out.grown {w0 w w' : World} {base B : Nat} {v : Value} {l : List UInt8} (h : Out w base v l) (hb : Below B w0 w) (hg : w.grownBy w' v.ownBlock) (hB : B <= base) : Below B w0 w' :=
 hb.grown hg (Nat.le_trans hB h.2) (fun j hj => Nat.le_trans hB (h.lt j hj).1)
theorem Out.bytes {w : World} {base : Nat} {v : Value} {l : List UInt8} (h : Out w base v l) (hl : l.length <= maxLen) : qg w v l := by
 rcases h.1.2 with ⟨rfl, h0⟩ | ⟨g, cap, cur, rfl, _, hg, _, _, _, htake⟩
 ·exact ⟨none, 0, by rw [h0], hl, fun h1 => by omega⟩
 ·refine ⟨_, cap, rfl, hl, fun _ => ⟨g, 0, rfl, (Array.getElem?_eq_some_iff.1 hg).1, fun i hi => ?_⟩⟩
  have := h.1.cells (g := g) rfl i (.int .u8 (l[i].toNat : Int)) (by simp [qh, hi])
  rwa [qAS] at this
theorem qDF (a b : List UInt8) : qh (a ++ b) = qh a ++ qh b := by simp [qh]
theorem qEC {w : World} {base : Nat} {v : Value} {l : List UInt8} (ho : Out w base v l) (a : Addr) (m c : Nat) (news : List UInt8) (hm : news.length = m) (hsrc : ∀ j u, (qh news)[j]? = some u -> w.cell? (a.add j) = some u) (hl : l.length + m <= 140737488355328) :
  ∃ v' w', (∀ ty, (Builtin.append_ #[31, 31] ty #[v, .slice (some a) m c]).run Tryz.prog w = .ok v' w') /\ Out w' base v' (l ++ news) /\ w.grownBy w' v.ownBlock := by
 obtain ⟨i, hi, hz0, hz1, hz2⟩ := info_parts qGO
 have key := fun ty => run_append_own (P := Tryz.prog) w base 31 ty 5 i _ 1 1 Tryz.underlying31 hi hz0 hz1 hz2 rfl (by decide) v l.length (qh l) ho.1 a m c (qh news) (by rw [qDW, hm]) hsrc (qDV news) (by unfold maxLen; omega) (by omega) ho.2
 obtain ⟨v', w', hr, h2, h3, _⟩ := key 0
 refine ⟨v', w', fun ty => ?_, ⟨?_, Nat.le_trans ho.2 h3.size⟩, h3⟩
 ·obtain ⟨v2, w2, hr2, _⟩ := key ty
  have e : (Builtin.append_ #[31, 31] ty #[v, .slice (some a) m c]).run Tryz.prog w = (Builtin.append_ #[31, 31] 0 #[v, .slice (some a) m c]).run Tryz.prog w := rfl
  rw [e, hr]
 ·rw [qDF, List.length_append, hm]
  exact h2
theorem qA {w : World} {b i : Nat} {c : Array Value} {t : TypeId} {f : Nat × Nat} {v : Value} (h : w.heap[b]? = some (.cells c t f)) (hv : c[i]? = some v) : w.cell? ⟨b, i, none⟩ = some v := by
 unfold World.cell?
 simp only [h]
 exact hv
theorem app_sym {w : World} {base : Nat} {v : Value} {xs : List Sy} (ho : w.ownsRow base 81 2 v xs.length (qT xs)) (hb : base <= w.heap.size) (x : Sy) (g : Nat) (hg : w.heap[g]? = some (.cells #[.string ⟨x.name.toArray⟩, .int .i64 x.pos] 81 (0, 0))) (hl : xs.length <= 5000000000) :
  ∃ v' w', (∀ ty, (Builtin.append_ #[32, 32] ty #[v, .slice (some ⟨g, 0, none⟩) 1 1]).run Tryz.prog w = .ok v' w') /\ w'.ownsRow base 81 2 v' (xs ++ [x]).length (qT (xs ++ [x])) /\ w.grownBy w' v.ownBlock := by
 obtain ⟨i, hi, hz0, hz1, hz2⟩ := info_parts qJn
 obtain ⟨v', w', hr, h2, h3, _⟩ := run_append_own (P := Tryz.prog) w base 32 0 81 i _ 2 24 Tryz.underlying32 hi hz0 hz1 hz2 rfl (by decide) v xs.length (qT xs) ho ⟨g, 0, none⟩ 1 1 [.string ⟨x.name.toArray⟩, .int .i64 x.pos] rfl (fun j u hj => by
  rw [qAS, Nat.zero_add]
  exact qA hg (by simpa using hj)) (by intro u hu; simp at hu; rcases hu with rfl | rfl <;> rfl) (by unfold maxLen; omega) (by omega) hb
 refine ⟨v', w', fun ty => hr, ?_, h3⟩
 have e : qT (xs ++ [x]) = qT xs ++ [.string ⟨x.name.toArray⟩, .int .i64 x.pos] := by simp [qT, Sy.cells]
 rw [e, List.length_append]
 exact h2
theorem qEx {w : World} {base : Nat} {v : Value} {xs : List Sy} (h : w.ownsRow base 81 2 v xs.length (qT xs)) : qAw w v xs := by
 rcases h.2 with ⟨rfl, h0⟩ | ⟨g, cap, cur, rfl, _, hg, hnc, hcm, _, htake⟩
 ·exact ⟨none, 0, by rw [h0], by rw [h0]; simp, fun h1 => by omega⟩
 ·refine ⟨_, cap, rfl, ⟨by omega, hnc⟩, fun _ => ⟨g, 0, rfl, (Array.getElem?_eq_some_iff.1 hg).1, fun i hi => ?_⟩⟩
  have hc := h.cells (g := g) rfl
  have ha := qBE xs i hi
  have h1 := hc _ _ ha.1
  have h2 := hc _ _ ha.2
  rw [qAS] at h1 h2
  exact ⟨by simpa using h1, by simpa [Nat.add_assoc] using h2⟩
theorem qG {w : World} {base size n : Nat} {e : TypeId} {v : Value} {xs : List Value} (h : w.ownsRow base e size v n xs) : ∃ ad cap, v = .slice ad n cap := by
 rcases h.2 with ⟨rfl, h0⟩ | ⟨g, cap, cur, rfl, _⟩
 ·exact ⟨none, 0, by rw [h0]⟩
 ·exact ⟨_, _, rfl⟩
theorem qLc {w wr : World} {base size n Q : Nat} {e : TypeId} {v : Value} {xs : List Value} (h : wr.ownsRow base e size v n xs) (hQ : Q < base) (hg : wr.grownBy w (some Q)) : w.ownsRow base e size v n xs :=
 h.kept hg (by
  cases hv : v.ownBlock with
  | none => exact .inl rfl
  | some k => exact .inr (fun e => by cases e; have := (h.lt _ hv).1; omega))
theorem qAr {w : World} {base n size M o : Nat} {e : TypeId} {v x : Value} {xs : List Value} (h : w.ownsRow base e size v n xs) (hM : M < base) : (w.setCell ⟨M, o, none⟩ x).ownsRow base e size v n xs :=
 qLc h hM (ogset w M o x)
theorem qAy {P : Program} {md : Region.Mode} {ops : Array Oper} {Q : Exit -> Act -> World -> Prop} {S : World -> Prop} (i d : Nat) {oi : Oper} {v : Value} {fuel : Nat} {listed : Array Bool} {T : Array Value} {D : List Deferred} {w : World} (hi : ops[i]? = some oi) (hd : oi.dst = some d)
  (hs : Region.noSelect ops = true) (hf : Region.free md ops listed i = true) (hr : (Region.ready md ops listed).contains i = true)
  (hQ : ∀ c a w, Q (.panic c) (a.put oi.dst v) w -> Q (.panic c) a w) (hw : Region.wanted oi (yielded ops T) = true) (hy : ∀ w, S w -> (execOp (Act.eval ⟨T, D⟩) oi).run P w = .ok (.value v) w) (hS : S w)
  (h : wpAnyH P md ops Q S fuel (listed.setIfInBounds i true) ⟨T.setIfInBounds d v, D⟩ w) : wpAnyH P md ops Q S (fuel + 1) listed ⟨T, D⟩ w := by
 refine wpAnyH_take hi hs hf hr hQ (Or.inl ⟨hw, hy⟩) hS ?_
 rw [hd]
 exact h
theorem tk {P : Program} {md : Region.Mode} {ops : Array Oper} {Q : Exit -> Act -> World -> Prop} {S : World -> Prop} (i d : Nat) {oi : Oper} {v : Value} {fuel : Nat} {listed : Array Bool} {T : Array Value} {D : List Deferred} {w : World} (hS : S w)
  (h : wpAnyH P md ops Q S fuel (listed.setIfInBounds i true) ⟨T.setIfInBounds d v, D⟩ w) (hi : ops[i]? = some oi := by rfl) (hd : oi.dst = some d := by rfl)
  (hs : Region.noSelect ops = true := by kernel_rfl) (hf : Region.free md ops listed i = true := by kernel_rfl) (hr : (Region.ready md ops listed).contains i = true := by kernel_rfl)
  (hQ : ∀ c a w, Q (.panic c) (a.put oi.dst v) w -> Q (.panic c) a w := by exact fun _ _ _ h => h) (hw : Region.wanted oi (yielded ops T) = true := by rfl) (hy : ∀ w, S w -> (execOp (Act.eval ⟨T, D⟩) oi).run P w = .ok (.value v) w := by (intro w hSw; go_simp; try with_reducible rfl)) : wpAnyH P md ops Q S (fuel + 1) listed ⟨T, D⟩ w :=
 qAy i d hi hd hs hf hr hQ hw hy hS h
theorem sA {α : Type} (l : List α) (i : Nat) (a : α) : l.toArray.setIfInBounds i a = (l.set i a).toArray := by simp
theorem sB {α : Type} {x y : α} {l : List α} : (x :: l).set 0 y = y :: l := rfl
theorem sC {α : Type} {x y : α} {l : List α} {n : Nat} : (x :: l).set (n + 1) y = x :: l.set n y := rfl
theorem wr1 {P : Program} {md : Region.Mode} {ops : Array Oper} {Q : Exit -> Act -> World -> Prop} {S : World -> Prop} {fuel : Nat} {listed : Array Bool} {a : Act} {w : World} (i : Nat) {o : Oper}
  (h : ∀ K' : Act -> World -> Prop, Shut (∀ a w, S w -> (S w -> wpAnyH P md ops Q S fuel (listed.setIfInBounds i true) a w) -> K' a w) -> if Region.wanted o (yielded ops a.tmps) = true then Oper.wp P o a w K' Q else K' (a.put o.dst undef) w)
  (hr : Region.ready md ops listed = [i] := by kernel_rfl) (ho : ops[i]? = some o := by rfl) : wpAnyH P md ops Q S (fuel + 1) listed a w :=
 wpAnyH_ready hr (by simp) (AllReadyH.cons ho h AllReadyH.nil)
theorem tk2 {P : Program} {md : Region.Mode} {ops : Array Oper} {Q : Exit -> Act -> World -> Prop} {S : World -> Prop} (i d : Nat) {oi : Oper} {v : Value} {fuel : Nat} {listed : Array Bool} {T : Array Value} {D : List Deferred} {w : World} (hy : ∀ w, S w -> (execOp (Act.eval ⟨T, D⟩) oi).run P w = .ok (.value v) w) (hS : S w)
  (h : wpAnyH P md ops Q S fuel (listed.setIfInBounds i true) ⟨T.setIfInBounds d v, D⟩ w) (hi : ops[i]? = some oi := by rfl) (hd : oi.dst = some d := by rfl)
  (hs : Region.noSelect ops = true := by kernel_rfl) (hf : Region.free md ops listed i = true := by kernel_rfl) (hr : (Region.ready md ops listed).contains i = true := by kernel_rfl)
  (hQ : ∀ c a w, Q (.panic c) (a.put oi.dst v) w -> Q (.panic c) a w := by exact fun _ _ _ h => h) (hw : Region.wanted oi (yielded ops T) = true := by rfl) : wpAnyH P md ops Q S (fuel + 1) listed ⟨T, D⟩ w :=
 qAy i d hi hd hs hf hr hQ hw hy hS h
theorem qAE {P : Program} {ops : Array Oper} {o : Oper} {a : Act} {w : World} {K : Act -> World -> Prop} {Q : Exit -> Act -> World -> Prop} {E : Prop} (hgd : o.guard = none) (d : Nat) (hd : o.dst = some d) (sl x : Operand) (t u : TypeId)
  (ho : o.op = .call { callee := .builtin .append, args := #[sl, x], argTypes := #[t, u] }) (v v2 : Value) (hs : a.eval sl = v) (hx : a.eval x = v2) {v' : Value} {w' : World}
  (hr : ∀ ty, (Builtin.append_ #[t, u] ty #[v, v2]).run P w = .ok v' w') (h : K ⟨a.tmps.setIfInBounds d v', a.defers⟩ w') : if Region.wanted o (yielded ops a.tmps) = true then Oper.wp P o a w K Q else E := by
 have hw : Region.wanted o (yielded ops a.tmps) = true := by simp [Region.wanted, hgd]
 rw [if_pos hw]
 have hr := hr o.type
 unfold Oper.wp execOp
 simp only [ho, resolve, invoke, builtin, Sem.run_bind, Sem.run_pure, Result.andThen_ok, List.map_toArray, List.map_cons, List.map_nil, hs, hx, hr]
 show K (a.put o.dst v') w'
 rw [hd]
 exact h
theorem qBD {W : World} {base base' size size' n n' : Nat} {e e' : TypeId} {v v' : Value} {ys ys' : List Value} (h : W.ownsRow base e size v n ys) (h' : W.ownsRow base' e' size' v' n' ys') (he : e ≠ e') : v'.ownBlock = none \/ v'.ownBlock ≠ v.ownBlock := by
 rcases h'.2 with ⟨rfl, _⟩ | ⟨g', cap', cur', rfl, _, hg', _⟩
 ·exact .inl rfl
 ·refine .inr fun e0 => ?_
  rcases h.2 with ⟨rfl, _⟩ | ⟨g, cap, cur, rfl, _, hg, _⟩
  ·simp [Value.ownBlock] at e0
  ·simp only [Value.ownBlock, Option.some.injEq] at e0
   subst e0
   rw [hg] at hg'
   injection hg' with hg'
   injection hg' with _ h2
   exact he h2
end Go.Proofs.YtgjmbjahgcndnaaGreatDoor.Li
