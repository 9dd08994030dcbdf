import Derived.Maps.OwnOps
import Derived.Deep.Upon
import Derived.Test.YtgjmbjahgcndnaaGreatDoorPut33
import Derived.LaidEqlPtr
set_option maxHeartbeats 2000000
namespace Go.Proofs.YtgjmbjahgcndnaaGreatDoor
open Go.RowKit
def qh (l : List UInt8) : List Value := l.map fun c => .int .u8 (c.toNat : Int)
theorem qDW (l : List UInt8) : (qh l).length = l.length * 1 := by simp [qh]
theorem qDV (l : List UInt8) : ∀ v ∈ qh l, v.oneCell' = true := by
 intro v hv
 obtain ⟨c, _, rfl⟩ := List.mem_map.1 hv
 rfl
theorem qAS (b o j : Nat) : (⟨b, o, none⟩ : Addr).add j = ⟨b, o + j, none⟩ := by unfold Addr.add; split <;> simp_all
def Out (w : World) (base : Nat) (v : Value) (l : List UInt8) : Prop := w.ownsRow base 5 1 v l.length (qh l) /\ base <= w.heap.size
theorem Out.lt {w : World} {base : Nat} {v : Value} {l : List UInt8} (h : Out w base v l) : ∀ k, v.ownBlock = some k -> base <= k /\ k < w.heap.size := h.1.lt
theorem Out.other {w : World} {base : Nat} {v : Value} {l : List UInt8} (h : Out w base v l) {b : Nat} {c : Array Value} {t : TypeId} {f : Nat × Nat} (hb : w.heap[b]? = some (.cells c t f)) (ht : t ≠ 5) : some b ≠ v.ownBlock := by
 rcases h.1.2 with ⟨rfl, _⟩ | ⟨g, cap, cur, rfl, _, hg, _⟩
 ·simp [Value.ownBlock]
 ·intro e
  simp only [Value.ownBlock, Option.some.injEq] at e
  subst e
  rw [hb] at hg
  injection hg with hg
  injection hg with _ h2
  exact ht h2
theorem Out.box {w w' : World} {base : Nat} {v : Value} {l : List UInt8} (h : Out w base v l) (hg : w.grownBy w' v.ownBlock) {b : Nat} {c : Array Value} {t : TypeId} {f : Nat × Nat} (hb : w.heap[b]? = some (.cells c t f)) (ht : t ≠ 5) : w'.heap[b]? = some (.cells c t f) := by
 rw [hg.block b (Array.getElem?_eq_some_iff.1 hb).1 (h.other hb ht)]
 exact hb
theorem Out.below {w w' : World} {base B : Nat} {v : Value} {l : List UInt8} (h : Out w base v l) (hb : Below B w w') (hB : w.heap.size <= B) : Out w' base v l :=
 ⟨h.1.kept (ogbelow none hb hB) (by cases v.ownBlock <;> simp), Nat.le_trans h.2 hb.size⟩
theorem Out.grown {w0 w w' : World} {base B : Nat} {v : Value} {l : List UInt8} (h : Out w base v l) (hb : Below B w0 w) (hg : w.grownBy w' v.ownBlock) (hB : B <= base) : Below B w0 w' :=
 hb.grown hg (Nat.le_trans hB h.2) (fun j hj => Nat.le_trans hB (h.lt j hj).1)
theorem Out.bytes {w : World} {base : Nat} {v : Value} {l : List UInt8} (h : Out w base v l) (hl : l.length <= maxLen) : qg w v l := by
 rcases h.1.2 with ⟨rfl, h0⟩ | ⟨g, cap, cur, rfl, _, hg, _, _, _, htake⟩
 ·exact ⟨none, 0, by rw [h0], hl, fun h1 => by omega⟩
 ·refine ⟨_, cap, rfl, hl, fun _ => ⟨g, 0, rfl, (Array.getElem?_eq_some_iff.1 hg).1, fun i hi => ?_⟩⟩
  have := h.1.cells (g := g) rfl i (.int .u8 (l[i].toNat : Int)) (by simp [qh, hi])
  rwa [qAS] at this
theorem qDF (a b : List UInt8) : qh (a ++ b) = qh a ++ qh b := by simp [qh]
theorem qEC {w : World} {base : Nat} {v : Value} {l : List UInt8} (ho : Out w base v l) (a : Addr) (m c : Nat) (news : List UInt8) (hm : news.length = m) (hsrc : ∀ j u, (qh news)[j]? = some u -> w.cell? (a.add j) = some u) (hl : l.length + m <= 140737488355328) :
  ∃ v' w', (∀ ty, (Builtin.append_ #[31, 31] ty #[v, .slice (some a) m c]).run Tryz.prog w = .ok v' w') /\ Out w' base v' (l ++ news) /\ w.grownBy w' v.ownBlock := by
 obtain ⟨i, hi, hz0, hz1, hz2⟩ := info_parts qGO
 have key := fun ty => run_append_own (P := Tryz.prog) w base 31 ty 5 i _ 1 1 Tryz.underlying31 hi hz0 hz1 hz2 rfl (by decide) v l.length (qh l) ho.1 a m c (qh news) (by rw [qDW, hm]) hsrc (qDV news) (by unfold maxLen; omega) (by omega) ho.2
 obtain ⟨v', w', hr, h2, h3, _⟩ := key 0
 refine ⟨v', w', fun ty => ?_, ⟨?_, Nat.le_trans ho.2 h3.size⟩, h3⟩
 ·obtain ⟨v2, w2, hr2, _⟩ := key ty
  have e : (Builtin.append_ #[31, 31] ty #[v, .slice (some a) m c]).run Tryz.prog w = (Builtin.append_ #[31, 31] 0 #[v, .slice (some a) m c]).run Tryz.prog w := rfl
  rw [e, hr]
 ·rw [qDF, List.length_append, hm]
  exact h2
theorem qBP {w : World} {base : Nat} {v x : Value} {l news : List UInt8} (ho : Out w base v l) (hx : qg w x news) (hl : l.length + news.length <= 140737488355328) :
  ∃ v' w', (∀ ty, (Builtin.append_ #[31, 31] ty #[v, x]).run Tryz.prog w = .ok v' w') /\ Out w' base v' (l ++ news) /\ w.grownBy w' v.ownBlock := by
 obtain ⟨ad, cap, rfl, _, hc⟩ := hx
 by_cases h0 : 0 < news.length
 ·obtain ⟨b, o, rfl, _, hcell⟩ := hc h0
  refine qEC ho ⟨b, o, none⟩ news.length cap news rfl (fun j u hj => ?_) hl
  rw [qAS]
  simp only [qh, List.getElem?_map, Option.map_eq_some_iff] at hj
  obtain ⟨c, hj, rfl⟩ := hj
  obtain ⟨hlt, rfl⟩ := List.getElem?_eq_some_iff.1 hj
  exact hcell j hlt
 ·have hn : news = [] := List.eq_nil_of_length_eq_zero (by omega)
  subst hn
  obtain ⟨i, hi, _, hz1, _⟩ := info_parts qGO
  have key : ∃ a n c, v = .slice a n c /\ n <= c := by
   rcases ho.1.2 with ⟨rfl, h⟩ | ⟨g, cap, cur, rfl, _, _, hnc, _⟩
   ·exact ⟨none, 0, 0, rfl, Nat.le_refl _⟩
   ·exact ⟨_, _, _, rfl, hnc⟩
  obtain ⟨a, n, c, rfl, hle⟩ := key
  refine ⟨_, w, fun ty => run_append_nothing (P := Tryz.prog) w 31 31 ty 5 i Tryz.underlying31 hi a n c hle _ ?_, by simpa using ho, World.grownBy.refl w _⟩
  cases ad with
  | none => exact Src.ofNil w Tryz.underlying31 cap
  | some ad => exact Src.ofSlice w Tryz.underlying31 ad 0 cap [] (by simp) (by simp) (by simp)
theorem qA {w : World} {b i : Nat} {c : Array Value} {t : TypeId} {f : Nat × Nat} {v : Value} (h : w.heap[b]? = some (.cells c t f)) (hv : c[i]? = some v) : w.cell? ⟨b, i, none⟩ = some v := by
 unfold World.cell?
 simp only [h]
 exact hv
theorem qAy {P : Program} {md : Region.Mode} {ops : Array Oper} {Q : Exit -> Act -> World -> Prop} {S : World -> Prop} (i d : Nat) {oi : Oper} {v : Value} {fuel : Nat} {listed : Array Bool} {T : Array Value} {D : List Deferred} {w : World} (hi : ops[i]? = some oi) (hd : oi.dst = some d)
  (hs : Region.noSelect ops = true) (hf : Region.free md ops listed i = true) (hr : (Region.ready md ops listed).contains i = true)
  (hQ : ∀ c a w, Q (.panic c) (a.put oi.dst v) w -> Q (.panic c) a w) (hw : Region.wanted oi (yielded ops T) = true) (hy : ∀ w, S w -> (execOp (Act.eval ⟨T, D⟩) oi).run P w = .ok (.value v) w) (hS : S w)
  (h : wpAnyH P md ops Q S fuel (listed.setIfInBounds i true) ⟨T.setIfInBounds d v, D⟩ w) : wpAnyH P md ops Q S (fuel + 1) listed ⟨T, D⟩ w := by
 refine wpAnyH_take hi hs hf hr hQ (Or.inl ⟨hw, hy⟩) hS ?_
 rw [hd]
 exact h
theorem tk {P : Program} {md : Region.Mode} {ops : Array Oper} {Q : Exit -> Act -> World -> Prop} {S : World -> Prop} (i d : Nat) {oi : Oper} {v : Value} {fuel : Nat} {listed : Array Bool} {T : Array Value} {D : List Deferred} {w : World} (hS : S w)
  (h : wpAnyH P md ops Q S fuel (listed.setIfInBounds i true) ⟨T.setIfInBounds d v, D⟩ w) (hi : ops[i]? = some oi := by rfl) (hd : oi.dst = some d := by rfl)
  (hs : Region.noSelect ops = true := by kernel_rfl) (hf : Region.free md ops listed i = true := by kernel_rfl) (hr : (Region.ready md ops listed).contains i = true := by kernel_rfl)
  (hQ : ∀ c a w, Q (.panic c) (a.put oi.dst v) w -> Q (.panic c) a w := by exact fun _ _ _ h => h) (hw : Region.wanted oi (yielded ops T) = true := by rfl) (hy : ∀ w, S w -> (execOp (Act.eval ⟨T, D⟩) oi).run P w = .ok (.value v) w := by (intro w hSw; go_simp; try with_reducible rfl)) : wpAnyH P md ops Q S (fuel + 1) listed ⟨T, D⟩ w :=
 qAy i d hi hd hs hf hr hQ hw hy hS h
theorem sA {α : Type} (l : List α) (i : Nat) (a : α) : l.toArray.setIfInBounds i a = (l.set i a).toArray := by simp
theorem sB {α : Type} {x y : α} {l : List α} : (x :: l).set 0 y = y :: l := rfl
theorem sC {α : Type} {x y : α} {l : List α} {n : Nat} : (x :: l).set (n + 1) y = x :: l.set n y := rfl
theorem wr1 {P : Program} {md : Region.Mode} {ops : Array Oper} {Q : Exit -> Act -> World -> Prop} {S : World -> Prop} {fuel : Nat} {listed : Array Bool} {a : Act} {w : World} (i : Nat) {o : Oper}
  (h : ∀ K' : Act -> World -> Prop, Shut (∀ a w, S w -> (S w -> wpAnyH P md ops Q S fuel (listed.setIfInBounds i true) a w) -> K' a w) -> if Region.wanted o (yielded ops a.tmps) = true then Oper.wp P o a w K' Q else K' (a.put o.dst undef) w)
  (hr : Region.ready md ops listed = [i] := by kernel_rfl) (ho : ops[i]? = some o := by rfl) : wpAnyH P md ops Q S (fuel + 1) listed a w :=
 wpAnyH_ready hr (by simp) (AllReadyH.cons ho h AllReadyH.nil)
theorem tk2 {P : Program} {md : Region.Mode} {ops : Array Oper} {Q : Exit -> Act -> World -> Prop} {S : World -> Prop} (i d : Nat) {oi : Oper} {v : Value} {fuel : Nat} {listed : Array Bool} {T : Array Value} {D : List Deferred} {w : World} (hy : ∀ w, S w -> (execOp (Act.eval ⟨T, D⟩) oi).run P w = .ok (.value v) w) (hS : S w)
  (h : wpAnyH P md ops Q S fuel (listed.setIfInBounds i true) ⟨T.setIfInBounds d v, D⟩ w) (hi : ops[i]? = some oi := by rfl) (hd : oi.dst = some d := by rfl)
  (hs : Region.noSelect ops = true := by kernel_rfl) (hf : Region.free md ops listed i = true := by kernel_rfl) (hr : (Region.ready md ops listed).contains i = true := by kernel_rfl)
  (hQ : ∀ c a w, Q (.panic c) (a.put oi.dst v) w -> Q (.panic c) a w := by exact fun _ _ _ h => h) (hw : Region.wanted oi (yielded ops T) = true := by rfl) : wpAnyH P md ops Q S (fuel + 1) listed ⟨T, D⟩ w :=
 qAy i d hi hd hs hf hr hQ hw hy hS h
theorem qAE {P : Program} {ops : Array Oper} {o : Oper} {a : Act} {w : World} {K : Act -> World -> Prop} {Q : Exit -> Act -> World -> Prop} {E : Prop} (hgd : o.guard = none) (d : Nat) (hd : o.dst = some d) (sl x : Operand) (t u : TypeId)
  (ho : o.op = .call { callee := .builtin .append, args := #[sl, x], argTypes := #[t, u] }) (v v2 : Value) (hs : a.eval sl = v) (hx : a.eval x = v2) {v' : Value} {w' : World}
  (hr : ∀ ty, (Builtin.append_ #[t, u] ty #[v, v2]).run P w = .ok v' w') (h : K ⟨a.tmps.setIfInBounds d v', a.defers⟩ w') : if Region.wanted o (yielded ops a.tmps) = true then Oper.wp P o a w K Q else E := by
 have hw : Region.wanted o (yielded ops a.tmps) = true := by simp [Region.wanted, hgd]
 rw [if_pos hw]
 have hr := hr o.type
 unfold Oper.wp execOp
 simp only [ho, resolve, invoke, builtin, Sem.run_bind, Sem.run_pure, Result.andThen_ok, List.map_toArray, List.map_cons, List.map_nil, hs, hx, hr]
 show K (a.put o.dst v') w'
 rw [hd]
 exact h
theorem qBD {W : World} {base base' size size' n n' : Nat} {e e' : TypeId} {v v' : Value} {ys ys' : List Value} (h : W.ownsRow base e size v n ys) (h' : W.ownsRow base' e' size' v' n' ys') (he : e ≠ e') : v'.ownBlock = none \/ v'.ownBlock ≠ v.ownBlock := by
 rcases h'.2 with ⟨rfl, _⟩ | ⟨g', cap', cur', rfl, _, hg', _⟩
 ·exact .inl rfl
 ·refine .inr fun e0 => ?_
  rcases h.2 with ⟨rfl, _⟩ | ⟨g, cap, cur, rfl, _, hg, _⟩
  ·simp [Value.ownBlock] at e0
  ·simp only [Value.ownBlock, Option.some.injEq] at e0
   subst e0
   rw [hg] at hg'
   injection hg' with hg'
   injection hg' with _ h2
   exact he h2
theorem qHo (g : Nat) (a : ByteArray) (b : Bool) (w : World) (h0 : w.cell? ⟨g, 0, none⟩ = some (.string a)) (h1 : w.cell? ⟨g, 1, none⟩ = some (.bool b)) : Calls Tryz.prog 221 #[.pointer (some ⟨g, 0, none⟩)] w fun r w' => r = .returned (.agg #[.string a, .bool b]) /\ Below w.heap.size w w' := by
 have hg : g < w.heap.size := World.block_lt_of_cell? w _ h0
 go_enter Tryz.func221, Tryz.ntmps221
 go_wp2
 go_returns
 exact ⟨rfl, qE _ _⟩
theorem qIS (g q : Nat) (ev : Value) (nm : ByteArray) (n : Int) (w : World) (h : PR w g q ⟨#[]⟩ false ev false 0 false ⟨#[]⟩ 0) :
  Calls Tryz.prog 242 #[.pointer (some ⟨g, 0, none⟩), .agg #[.bool true, .string nm, .int .i64 n, .slice none 0 0, .int .i64 0]] w fun r w' => r = .returned (.tuple #[]) /\ PR w' g q ⟨#[]⟩ true ev false 0 true nm n /\ F2 g q w w' := by
 have HP := Lib.hid fun W (hb : Below w.heap.size w W) => qCI g q ⟨#[]⟩ (.inl rfl) false ev false 0 nm n W (h.go hb)
 have hg := qC h.pt
 have hq := qC h.ch
 clear h
 go_enter Tryz.func242, Tryz.ntmps242
 go_wp2_with (go_at_call 256; refine (HP.out _ (by go_grown)).mono ?_; rintro e w1 ⟨rfl, hp1, hf1⟩; have x1 : w1.heap[w.heap.size]? = some (.cells #[.bool true, .string nm, .int .i64 n, .slice none 0 0, .int .i64 0] 353 (0, 0)) := (hf1.block _ (by simp) (by omega) (by omega)).trans (qH _ _ rfl); have y3 : w1.cell? ⟨w.heap.size, 3, none⟩ = some (.slice none 0 0) := qB x1 rfl; have y4 : w1.cell? ⟨w.heap.size, 4, none⟩ = some (.int .i64 0) := qB x1 rfl; have hz1 := qC x1; have HP1 := Lib.hid hp1; have HF1 := Lib.hid hf1; clear hp1 hf1 x1)
 refine wp_loop_rounds 1 ?_
 rw [rounds_succ]
 go_wp2_with fail
 exact bodyPost_end (v := .tuple #[]) (by simp [results, Tryz.results242, go_sem]) rfl ⟨rfl, HP1.out, (F2.below (qE _ _)).trans HF1.out⟩
theorem join_one (g q g2 q2 : Nat) (nm : ByteArray) (n : Int) (w : World) (h : PR w g q ⟨#[]⟩ false (.slice none 0 0) false 0 false ⟨#[]⟩ 0) (h2 : PR w g2 q2 ⟨#[]⟩ true (.slice none 0 0) false 0 true nm n) (hne : g2 ≠ g /\ g2 ≠ q /\ q2 ≠ g /\ q2 ≠ q) :
  Calls Tryz.prog 222 #[.pointer (some ⟨g, 0, none⟩), .pointer (some ⟨g2, 0, none⟩)] w fun r w' => r = .returned (.tuple #[]) /\ PR w' g q ⟨#[]⟩ true (.slice none 0 0) false 0 true nm n /\ F2 g q w w' := by
 have HX := Lib.hid fun W (hb : Below w.heap.size w W) => qIS g q (.slice none 0 0) nm n W (h.go hb)
 have H1 := Lib.hid h
 have H2 := Lib.hid h2
 have c6 : w.cell? ⟨g, 6, none⟩ = some (.int .i64 0) := qB h.pt rfl
 have d0 : w.cell? ⟨g2, 0, none⟩ = some (.string ⟨#[]⟩) := qB h2.pt rfl
 have d1 : w.cell? ⟨g2, 1, none⟩ = some (.bool true) := qB h2.pt rfl
 have d3 : w.cell? ⟨g2, 3, none⟩ = some (.slice none 0 0) := qB h2.pt rfl
 have d4 : w.cell? ⟨g2, 4, none⟩ = some (.slice (some ⟨q2, 0, none⟩) 1 1) := qB h2.pt rfl
 have e0 : w.cell? ⟨q2, 0, none⟩ = some (.bool true) := qB h2.ch rfl
 have e1 : w.cell? ⟨q2, 1, none⟩ = some (.string nm) := qB h2.ch rfl
 have e2 : w.cell? ⟨q2, 2, none⟩ = some (.int .i64 n) := qB h2.ch rfl
 have e3 : w.cell? ⟨q2, 3, none⟩ = some (.slice none 0 0) := qB h2.ch rfl
 have e4 : w.cell? ⟨q2, 4, none⟩ = some (.int .i64 0) := qB h2.ch rfl
 have z0 := qC h.pt
 have z1 := qC h2.pt
 have z2 := qC h2.ch
 clear h h2
 go_enter Tryz.func222, Tryz.ntmps222
 go_wp2_with fail
 refine wp_loop_rounds 1 ?_
 rw [rounds_succ]
 go_wp2_with (first | (go_at_call 242; refine (HX.out _ (Below.refl _ _)).mono ?_; rintro e w1 ⟨rfl, hp1, hf1⟩; have y2 : PR w1 g2 q2 ⟨#[]⟩ true (.slice none 0 0) false 0 true nm n := ⟨(hf1.block _ z1 hne.1 hne.2.1).trans H2.out.pt, (hf1.block _ z2 hne.2.2.1 hne.2.2.2).trans H2.out.ch⟩; have k0 : w1.cell? ⟨g2, 0, none⟩ = some (.string ⟨#[]⟩) := qB y2.pt rfl; have k1 : w1.cell? ⟨g2, 1, none⟩ = some (.bool true) := qB y2.pt rfl; have k4 : w1.cell? ⟨g2, 4, none⟩ = some (.slice (some ⟨q2, 0, none⟩) 1 1) := qB y2.pt rfl; have k5 : w1.cell? ⟨g2, 5, none⟩ = some (.bool false) := qB y2.pt rfl; have k6 : w1.cell? ⟨g2, 6, none⟩ = some (.int .i64 0) := qB y2.pt rfl; have j0 : w1.cell? ⟨g, 0, none⟩ = some (.string ⟨#[]⟩) := qB hp1.pt rfl; have j1 : w1.cell? ⟨g, 1, none⟩ = some (.bool true) := qB hp1.pt rfl; have j5 : w1.cell? ⟨g, 5, none⟩ = some (.bool false) := qB hp1.pt rfl; have j6 : w1.cell? ⟨g, 6, none⟩ = some (.int .i64 0) := qB hp1.pt rfl; have f0 : w1.frozen? ⟨g, 0, none⟩ = false := qD hp1.pt; have f1 : w1.frozen? ⟨g, 1, none⟩ = false := qD hp1.pt; have f5 : w1.frozen? ⟨g, 5, none⟩ = false := qD hp1.pt; have f6 : w1.frozen? ⟨g, 6, none⟩ = false := qD hp1.pt; have hg1 := qC hp1.pt; have hg2 := qC y2.pt; have HP1 := Lib.hid hp1; have HF1 := Lib.hid hf1; clear hp1 hf1 y2 c6 d0 d1 d3 d4 e0 e1 e2 e3 e4 HX) | fail)
 have hne1 := hne.1
 refine wp_loop_rounds 1 ?_
 rw [rounds_succ]
 go_wp2_with fail
 clear H1 H2 z0 z1 z2 hne
 go_region
 all_goals go_wp2_with fail
 all_goals
  have b0 := qAj HP1.out.pt (i := 0) (v := .string ⟨#[]⟩) rfl
  have b1 := qAj b0 (i := 1) (v := .bool true) rfl
  have b6 := qAj b1 (i := 6) (v := .int .i64 0) rfl
  have hb : Below w1.heap.size w1 ((((w1.setCell ⟨g, 0, none⟩ (.string ⟨#[]⟩)).setCell ⟨g, 1, none⟩ (.bool true)).setCell ⟨g, 6, none⟩ (.int .i64 0)).setCell ⟨g, 5, none⟩ (.bool false)).drew := ((((qX HP1.out.pt rfl).trans (qX b0 rfl)).trans (qX b1 rfl)).trans (qX b6 rfl)).drew
  exact bodyPost_end (v := .tuple #[]) (by simp [results, Tryz.results222, go_sem]) rfl ⟨rfl, HP1.out.go hb, HF1.out.trans (F2.below hb)⟩
theorem chkP (e : Bool) (q : Nat) (a : ByteArray) (b : Bool) (W : World) : (Instr.checkKey e 10000 323 (.agg #[.pointer (some ⟨q, 0, none⟩), .string a, .bool b])).run Tryz.prog W = .ok () W := by kernel_rfl
theorem fndP (q : Nat) (a : ByteArray) (b : Bool) (W : World) : (Instr.findKey 323 (.agg #[.pointer (some ⟨q, 0, none⟩), .string a, .bool b]) []).run Tryz.prog W = .ok none W := by kernel_rfl
theorem qGt (q : Nat) (a : ByteArray) (b : Bool) (mi : Nat) (W : World) (h : W.heap[mi]? = some (.map #[] 0)) : (Instr.lookup 318 (.map (some mi)) (.agg #[.pointer (some ⟨q, 0, none⟩), .string a, .bool b]) false).run Tryz.prog W = .ok (.pointer none) W := by
 unfold Instr.lookup
 simp [Sem.run_bind, run_underlying Tryz.underlying318, MapKept.run_getObj_map h, chkP, fndP, Result.andThen]
theorem infoIn2 : (Tryz.prog.info? 228).map (fun i => (i.zero, i.size, i.bytes)) = some (some (.agg #[.int .i64 0, .nilFunc, .nilFunc]), 3, 24) := by kernel_rfl
theorem eqP1 (q d : Nat) (W : World) : (Op.equalIn (d + 1) 178 (.pointer (some ⟨q, 0, none⟩)) (.pointer (some ⟨q, 0, none⟩))).run Tryz.prog W = .ok true W := by
 obtain ⟨j, hj, _⟩ := info_parts infoIn2
 simp [Op.equalIn, run_underlying Tryz.underlying178, sizeOf, typeInfo, hj, run_sameAddr_same]
theorem eqP2 (d : Nat) (W : World) : (Op.equalIn (d + 2) 321 (.agg #[.string ⟨#[]⟩, .bool false]) (.agg #[.string ⟨#[]⟩, .bool false])).run Tryz.prog W = .ok true W := by kernel_rfl
theorem eqP3 (q d : Nat) (W : World) : (Op.equalIn (d + 3) 323 (.agg #[.pointer (some ⟨q, 0, none⟩), .string ⟨#[]⟩, .bool false]) (.agg #[.pointer (some ⟨q, 0, none⟩), .string ⟨#[]⟩, .bool false])).run Tryz.prog W = .ok true W := by
 have h1 := eqP1 q (d + 1) W
 have h2 := eqP2 d W
 have p0 : (part 178 #[.pointer (some ⟨q, 0, none⟩), .string ⟨#[]⟩, .bool false] 0).run Tryz.prog W = .ok (.pointer (some ⟨q, 0, none⟩)) W := by kernel_rfl
 have p1 : (part 321 #[.pointer (some ⟨q, 0, none⟩), .string ⟨#[]⟩, .bool false] 1).run Tryz.prog W = .ok (.agg #[.string ⟨#[]⟩, .bool false]) W := by kernel_rfl
 have hst : Tryz.prog.stoodInHeld 323 = false := by kernel_rfl
 rw [Op.equalIn]
 simp [run_underlying Tryz.underlying323, hst, h1, h2, p0, p1, Sem.run_bind, Result.andThen]
theorem eqP (q : Nat) (W : World) : (Op.equal 323 (.agg #[.pointer (some ⟨q, 0, none⟩), .string ⟨#[]⟩, .bool false]) (.agg #[.pointer (some ⟨q, 0, none⟩), .string ⟨#[]⟩, .bool false])).run Tryz.prog W = .ok true W := eqP3 q 9997 W
end Go.Proofs.YtgjmbjahgcndnaaGreatDoor
