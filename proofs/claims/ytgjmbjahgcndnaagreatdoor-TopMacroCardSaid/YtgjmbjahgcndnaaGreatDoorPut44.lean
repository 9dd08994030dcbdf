import Derived.Test.YtgjmbjahgcndnaaGreatDoorPut30
import Derived.RangeFuncWrites
import Derived.RangeFuncBox
import Derived.RangeFuncLeaves
import Derived.Shelf.Abstract
import Derived.OwnWalkIn
import Derived.TacticsInMore
import Derived.LoopNIn
import Derived.LoopIn
set_option maxHeartbeats 4000000
set_option maxRecDepth 100000
namespace Go.Proofs.YtgjmbjahgcndnaaGreatDoor
open Go.RowKit Go.Shelf
section
variable {α : Type} {P : Program} {F : Fence} {n : Nat}
def Abd (T : TypeId) (B : Nat) (J : List α -> World -> Prop) : Prop := ∀ s W W' r, J s W -> W.grownBy W' r -> (∀ k, r = some k -> B <= k /\ ∃ c f, W.heap[k]? = some (.cells c T f)) -> J s W'
def qLs (F : Fence) (n : Nat) (P : Program) (gf : Nat) (lb : Array Value) (encs : α -> Array Value) (Kp : World -> World -> Prop) (T : TypeId) (xs : List α) (w : World) : Prop :=
 ∀ (l : Nat) (J : List α -> World -> Prop) (W : World), Below w.heap.size w W -> Abd T W.heap.size J ->
  (∀ pre x rest W1, xs = pre ++ x :: rest -> J pre W1 -> YieldAt F (n - 1) P l (encs x) W1 fun e W' => e = .returned (.bool true) /\ J (pre ++ [x]) W' /\ Kp W1 W') ->
  J [] W -> CallsIn F n P gf (#[.func (.yield l) #[] #[]] ++ lb) W fun e W' => (∃ v, e = .returned v) /\ J xs W'
def BodyEnd (B : Nat) (Kp : World -> World -> Prop) (I : World -> Prop) (W : World) (e : Exit) (_ : Act) (W' : World) : Prop := e = .normal /\ KeepsFrom B W W' /\ Kp W W' /\ I W'
theorem qD2 {g : Operand} {ps : Array Tmp} {assign body : Code} {Q : Exit -> Act -> World -> Prop} {a : Act} {w : World}
  (hro : F.round = none) (h1 : 1 <= n) {gf : Nat} {lb : Array Value} (hg : a.eval g = .func (.func gf) #[] lb) (hFg : F.fn gf) (eg : ∀ args w, (callFunc gf args).run P w = .ok (.enter gf args) w)
  {encs : α -> Array Value} {Kp : World -> World -> Prop} {T : TypeId} {xs : List α} {w0 : World} (hseq : qLs F (n - 1) P gf lb encs Kp T xs w0)
  (hKt : ∀ A B C : World, Kp A B -> Kp B C -> Kp A C) (hKb : ∀ (W : World) (l : Nat) (o o' : Obj), w.heap.size <= l -> W.heap[l]? = some o -> o.isCells = false -> Kp W (W.putObj l o')) (hb0 : Below w0.heap.size w0 w) (hps : ∀ x, (encs x).size = ps.size)
  (I : List α -> World -> Prop) (hI : OwnFrom w.heap.size I) (hI2 : Abd T w.heap.size I) (h0 : I [] w) (Ax : α -> Act -> World -> Prop) (hAx : OwnFrom w.heap.size fun (s : α × Act) W => Ax s.1 s.2 W)
  (hassign : ∀ (l : Nat) (pre : List α) (x : α) (W : World) (K : Act -> World -> Prop), I pre W -> (∀ a' W', KeepsFrom w.heap.size W W' -> Kp W W' -> I pre W' -> Ax x a' W' -> K a' W') -> assign.wpIn (F.inRound l) (n - 1 - 1) P (Exit.then K (fun _ _ _ => False)) { tmps := (ps.zip (encs x)).foldl (fun t (p, v) => t.setIfInBounds p v) a.tmps, defers := [] } W)
  (hbody : ∀ (l : Nat) (pre : List α) (x : α) (rest : List α) (a' : Act) (W : World), xs = pre ++ x :: rest -> I pre W -> Ax x a' W -> body.wpIn (F.inRound l) (n - 1 - 1) P (BodyEnd w.heap.size Kp (I (pre ++ [x])) W) a' W)
  (hdone : ∀ (D : Nat) (W : World), w.heap.size <= D -> I xs W -> W.heap[D]? = some (.deferred (some [])) -> Q .normal { a with defers := { target := .collected D, args := #[] } :: a.defers } W) :
  (Code.rangeFunc g ps assign body).wpIn F n P Q a w := by
 refine wpIn_rangeFunc fun fn hfn => ?_
 rw [hro]
 obtain ⟨rc, hrc⟩ : ∃ rc : LoopState -> Loop, rc = fun st => { state := st, pending := none, fn, tmps := a.tmps, params := ps, assign, body, defers := w.heap.size } := ⟨_, rfl⟩
 obtain ⟨W1, hW1⟩ : ∃ W1, (w.alloc (.deferred (some []))).alloc (.loop (rc .ready)) = W1 := ⟨_, rfl⟩
 have hl1 : W1.heap[w.heap.size + 1]? = some (.loop (rc .ready)) := by
  rw [<- hW1]
  have := World.alloc_heap_new (w.alloc (.deferred (some []))) (.loop (rc .ready))
  rwa [World.size_alloc] at this
 have hd1 : W1.heap[w.heap.size]? = some (.deferred (some [])) := by
  rw [<- hW1]
  exact (Below.heap_alloc _ _ _ (by simp)).trans (World.alloc_heap_new w _)
 have hz1 : W1.heap.size = w.heap.size + 2 := by rw [<- hW1]; simp
 have hI1 : I [] W1 := by rw [<- hW1]; exact hI.alloc _ (hI.alloc _ h0)
 have hb1 : Below w0.heap.size w0 W1 := by
  rw [<- hW1]
  exact hb0.trans ((((Below.refl _ w).alloc (Nat.le_refl _) _).alloc (by simp) _).mono hb0.size)
 refine ⟨w.heap.size + 1, [{ target := .collected w.heap.size, args := #[] }], W1, { target := .fn (.func gf) lb, args := #[.func (.yield (w.heap.size + 1)) #[] #[]] }, W1, gf, #[.func (.yield (w.heap.size + 1)) #[] #[]] ++ lb, W1, ?_, ?_, ?_, ?_, fun _ => h1, ?_⟩
 ·rw [<- hW1, hrc]
  exact run_enterLoop_outer _ _ _ _ _
 ·simp only [resolve, hg]
  simp [go_sem]
 ·intro f' hf'
  simp [Target.leads] at hf'
  subst hf'
  exact hFg
 ·simp [invoke, go_sem, eg]
 have kept : ∀ {A A' : World} {r : Option Nat} {k : Nat} {o : Obj}, A.grownBy A' r -> (∀ q, r = some q -> w.heap.size + 2 <= q /\ ∃ c f, A.heap[q]? = some (.cells c T f)) -> k < w.heap.size + 2 -> A.heap[k]? = some o -> A'.heap[k]? = some o := fun hgr hr hk ho => (hgr.block _ (Array.getElem?_eq_some_iff.1 ho).1 (fun e => by have := (hr _ e.symm).1; omega)).trans ho
 refine (hseq (w.heap.size + 1) (fun pre W => I pre W /\ W.heap[w.heap.size + 1]? = some (.loop (rc .ready)) /\ W.heap[w.heap.size]? = some (.deferred (some []))) W1 hb1 ?_ ?_ ⟨hI1, hl1, hd1⟩).mono ?_
 ·rintro s A A' r ⟨i0, i1, i2⟩ hgr hr
  rw [hz1] at hr
  exact ⟨hI2 s A A' r i0 hgr (fun k e => ⟨by have := (hr k e).1; omega, (hr k e).2⟩), kept hgr hr (by omega) i1, kept hgr hr (by omega) i2⟩
 ·rintro pre x rest W hx ⟨hi, hl, hd⟩
  have hy := run_yield (P := P) (args := encs x) hl (by rw [hrc]; exact hps x)
  rw [hrc] at hy
  refine ⟨fn, _, assign, body, hy, roundIn_of_wpIn hfn (hassign _ pre x W _ hi fun a' W' hf' hk' hi' hx' => ?_)⟩
  have hl' := hf'.same _ _ (by omega) hl rfl
  have hd' := hf'.same _ _ (Nat.le_refl _) hd rfl
  have hlt' : w.heap.size + 1 < W'.heap.size := (Array.getElem?_eq_some_iff.1 hl').1
  refine ⟨_, run_beginRound hl' (by rw [hrc]), ?_⟩
  have hl2 : (W'.putObj (w.heap.size + 1) (.loop { rc .ready with state := .busy })).heap[w.heap.size + 1]? = some (.loop { rc .ready with state := .busy }) := World.putObj_heap_same hlt'
  have hd2 : (W'.putObj (w.heap.size + 1) (.loop { rc .ready with state := .busy })).heap[w.heap.size]? = some (.deferred (some [])) := (World.putObj_heap_other (by omega)).trans hd'
  have hk2 : Kp W (W'.putObj (w.heap.size + 1) (.loop { rc .ready with state := .busy })) := hKt _ _ _ hk' (hKb _ _ _ _ (by omega) hl' rfl)
  refine wpIn_mono (hbody _ pre x rest a' _ hx (hI.putObj _ hi' (by omega) hl' rfl) (OwnFrom.putObj hAx (s := (x, a')) _ hx' (by omega) hl' rfl)) ?_
  rintro e a3 W3 ⟨rfl, hf3, hk3, hi3⟩
  have hl3 := hf3.same _ _ (by omega) hl2 rfl
  have hd3 := hf3.same _ _ (Nat.le_refl _) hd2 rfl
  have hr3 := run_endRound (P := P) none hl3
  refine ⟨_, _, hr3, rfl, ⟨hI.putObj _ hi3 (by omega) hl3 rfl, ?_, (World.putObj_heap_other (by omega)).trans hd3⟩, hKt _ _ _ (hKt _ _ _ hk2 hk3) (hKb _ _ _ _ (by omega) hl3 rfl)⟩
  have := World.putObj_heap_same (o := .loop { rc .ready with state := .ready, pending := none }) (Array.getElem?_eq_some_iff.1 hl3).1
  rw [hrc] at this ⊢
  exact this
 ·rintro e W2 ⟨⟨v, rfl⟩, hi, hl, hd⟩
  have hr := run_endLoop (P := P) hl (by rw [hrc]; simp)
  have hp : (rc .ready).pending = none := by rw [hrc]
  rw [hp] at hr
  exact ⟨none, _, hr, hdone _ _ (Nat.le_refl _) (hI.putObj _ hi (by omega) hl rfl) ((World.putObj_heap_other (by omega)).trans hd)⟩
end
attribute [local go_sem] Oper.semAt_some
def KpT (n₀ n₁ : Nat) (A B : World) : Prop := Below n₀ A B /\ ∀ (i : Nat) (c : Array Value) (f : Nat × Nat), n₁ <= i -> A.heap[i]? = some (.cells c 143 f) -> B.heap[i]? = some (.cells c 143 f)
theorem KpT.trans {n₀ n₁ : Nat} {A B C : World} (h : KpT n₀ n₁ A B) (k : KpT n₀ n₁ B C) : KpT n₀ n₁ A C := ⟨h.1.trans k.1, fun i c f hn hi => k.2 i c f hn (h.2 i c f hn hi)⟩
theorem KpT.row {n₀ n₁ B n : Nat} {A A' : World} {v : Value} {xs : List Value} (h : KpT n₀ n₁ A A') (hB : n₁ <= B) (hr : A.ownsRow B 143 1 v n xs) : A'.ownsRow B 143 1 v n xs := by
 refine ⟨hr.1, ?_⟩
 rcases hr.2 with h0 | ⟨g, cap, cur, hv, hg, hb, rest⟩
 ·exact .inl h0
 ·exact .inr ⟨g, cap, cur, hv, hg, h.2 _ _ _ (Nat.le_trans hB hg) hb, rest⟩
theorem all_in (F : Fence) (n : Nat) (hF : F.fn 190) (hro : F.round = none) (a : Option Addr) (len cap : Nat) (w : World) :
  CallsIn F n Tryz.prog 190 #[.slice a len cap] w fun e w' => e = .returned (.func (.func 224) #[] #[.pointer (some ⟨w.heap.size, 0, none⟩)]) /\ w' = w.alloc (.cells #[.slice a len cap] 143) := by
 refine callsIn_of_wp Tryz.func190 rfl hF ?_ hro
 simp only [Tryz.ntmps190, List.size_toArray, List.length_cons, List.length_nil, Nat.reduceAdd, Nat.reduceSub, Array.replicate_succ, Array.replicate_zero, List.push_toArray, List.append_toArray, List.nil_append, List.cons_append]
 gi_wp2
 go_ret
 exact ⟨rfl, rfl⟩
theorem qKQ {w : World} {base : Nat} {e : TypeId} {oa : Option Addr} {oc : Nat} {x : Value} (h : w.ownsRow base e 1 (.slice oa 1 oc) 1 [x]) : ∃ g, oa = some ⟨g, 0, none⟩ /\ g < w.heap.size /\ w.cell? ⟨g, 0, none⟩ = some x /\ 1 <= oc /\ oc <= maxLen := by
 rcases h.2 with ⟨_, h0⟩ | ⟨g, cap, cur, hv, _, hg, h1, h2, _, hx⟩
 ·omega
 ·injection hv with e1 _ e3
  subst e1 e3
  refine ⟨g, rfl, qC hg, qB hg ?_, h1, h2⟩
  have := congrArg (fun l => l[0]?) hx
  simpa using this
theorem row_zero {w : World} {base : Nat} {e : TypeId} {oa : Option Addr} {oc n : Nat} {xs : List Value} (h : w.ownsRow base e 1 (.slice oa n oc) n xs) (hn : 0 < n) : w.ownsRow base e 1 (.slice oa 0 oc) 0 [] := by
 rcases h.2 with ⟨_, h0⟩ | ⟨g, cap, cur, hv, hb, hg, h1, h2, h3, _⟩
 ·omega
 ·injection hv with e1 _ e3
  subst e1 e3
  exact ⟨rfl, .inr ⟨g, oc, cur, rfl, hb, hg, Nat.zero_le _, h2, h3, by simp⟩⟩
theorem row_blk {w : World} {base : Nat} {e : TypeId} {v : Value} {n g : Nat} {xs : List Value} (h : w.ownsRow base e 1 v n xs) (hv : v.ownBlock = some g) : ∃ c f, w.heap[g]? = some (.cells c e f) := by
 rcases h.2 with ⟨rfl, _⟩ | ⟨g', cap, cur, rfl, _, hg, _⟩
 ·cases hv
 ·injection hv with hv
  subst hv
  exact ⟨_, _, hg⟩
theorem qDT (w : World) (t : TypeId) (v : Value) (j : Nat) (u : Value) (h : [v][j]? = some u) : (w.alloc (.cells #[v] t)).cell? ((⟨w.heap.size, 0, none⟩ : Addr).add j) = some u := by
 rcases j with _ | j
 ·obtain rfl : v = u := by simpa using h
  exact qB (qH _ _ rfl) rfl
 ·simp at h
theorem infoTx2 : (Tryz.prog.info? 143).map (fun i => (i.zero, i.size, i.bytes)) = some (some (.slice none 0 0), 1, 24) := by kernel_rfl
def leftT (W : World) : Value -> Nat
 | .slice (some a) (_ + 1) _ => match W.cell? a with
   | some (.slice _ n _) => n + 1
   | _ => 0
 | _ => 0
theorem all1_in (F : Fence) (n : Nat) (hF : F.fn 224) (hro : F.round = none) (hn : 1 <= n) (l Bn n₀ n₁ b o cap : Nat) (ts : List Tk) (h0 : 0 < ts.length) (hb : b < n₀) (J : List Tk -> World -> Prop) (W : World) (hn₀ : n₀ <= W.heap.size) (hn₁ : n₁ <= W.heap.size)
  (hJ : Abd 143 W.heap.size J)
  (hY : ∀ pre x rest W1, ts = pre ++ x :: rest -> J pre W1 -> YieldAt F (n - 1) Tryz.prog l #[x.V] W1 fun e W' => e = .returned (.bool true) /\ J (pre ++ [x]) W' /\ KpT n₀ n₁ W1 W')
  (hBn : W.cell? ⟨Bn, 0, none⟩ = some (.slice (some ⟨b, o, none⟩) ts.length cap)) (hc : qI W (.slice (some ⟨b, o, none⟩) ts.length cap) ts) (hj : J [] W) :
  CallsIn F n Tryz.prog 224 #[.func (.yield l) #[] #[], .pointer (some ⟨Bn, 0, none⟩)] W fun e W' => (∃ v, e = .returned v) /\ J ts W' := by
 refine callsIn_of_wp Tryz.func224 rfl hF ?_ hro
 simp only [Tryz.ntmps224, List.size_toArray, List.length_cons, List.length_nil, Nat.reduceAdd, Nat.reduceSub, Array.replicate_succ, Array.replicate_zero, List.push_toArray, List.append_toArray, List.nil_append, List.cons_append]
 have HY := Lib.hid hY
 have HP := Lib.hid hc
 obtain ⟨_, _, he, hlc, hcm, hcl⟩ := id hc
 injection he with he1 _ he3
 subst he1 he3
 obtain ⟨b', o', he, hbl, hcell⟩ := hcl h0
 injection he with he
 injection he with he1 he2 _
 subst he1 he2
 have HC := Lib.hid hcell
 have HJ := Lib.hid hJ
 clear hY hc hcl hcell hJ
 gi_wp2
 gi_loopw [3] (fun rv wr => ∃ (k i : Nat), i <= ts.length /\ Hid (wr.ownsRow W.heap.size 143 1 rv k (if k = 0 then [] else [.slice (some ⟨b, o + i * 4, none⟩) (ts.length - i) (cap - i)])) /\ Hid ((k = 0 /\ i = ts.length) \/ (k = 1 /\ i < ts.length)) /\ Hid (J (ts.take i) wr) /\ Hid (Below n₀ W wr))
  (fun rv wr => leftT wr rv)
 case atStart =>
  refine ⟨1, 0, Nat.zero_le _, ?_, .inr ⟨rfl, h0⟩, HJ.out [] _ _ none hj (World.grownBy_alloc _ _ none) (fun _ e => by cases e), ?_⟩
  ·refine ⟨rfl, .inr ⟨W.heap.size, 1, #[.slice (some ⟨b, o, none⟩) ts.length cap], rfl, Nat.le_refl _, qH _ _ rfl, Nat.le_refl _, by decide, rfl, by simp⟩⟩
  ·exact (Below.refl _ _).alloc hn₀ _
 case round =>
  obtain ⟨k, i, hi, HR, HK, HJs, HB⟩ := hrel
  rcases HK.out with ⟨rfl, rfl⟩ | ⟨rfl, hlt⟩
  ·obtain ⟨la, lc, rfl⟩ := qG HR.out
   have hjs := HJs.out
   rw [List.take_length] at hjs
   have HJE := Lib.hid hjs
   clear hjs HJs HC HY HJ hn₀ hn₁ hbl hBn
   gi_wp2
   go_end0
   exact ⟨⟨_, rfl⟩, HJE.out⟩
  ·rw [if_neg (by decide)] at HR
   obtain ⟨la, lc, rfl⟩ := qG HR.out
   obtain ⟨g, rfl, hgl, hgc, hl1, hlm⟩ := qKQ HR.out
   have hbw : b < wr.heap.size := Nat.lt_of_lt_of_le hbl HB.out.size
   obtain ⟨t0, t1, t2, t3⟩ := HC.out i hlt
   replace t0 := (HB.out.cell (by show b < n₀; exact hb)).trans t0
   replace t1 := (HB.out.cell (by show b < n₀; exact hb)).trans t1
   replace t2 := (HB.out.cell (by show b < n₀; exact hb)).trans t2
   replace t3 := (HB.out.cell (by show b < n₀; exact hb)).trans t3
   have hx : ts = ts.take i ++ ts[i] :: ts.drop (i + 1) := by rw [<- List.drop_eq_getElem_cons hlt, List.take_append_drop]
   have HT : Hid (ts.take (i + 1) = ts.take i ++ [ts[i]]) := List.take_succ_eq_append_getElem hlt
   have HYX : Hid (∀ W1, J (ts.take i) W1 -> YieldAt F (n - 1) Tryz.prog l #[ts[i].V] W1 fun e W' => e = .returned (.bool true) /\ J (ts.take (i + 1)) W' /\ KpT n₀ n₁ W1 W') := fun W1 hj1 => by
    rw [HT.out]
    exact HY.out _ _ _ W1 hx hj1
   clear hx HT HY HC HK
   obtain ⟨x, hxx⟩ : ∃ x, ts[i] = x := ⟨_, rfl⟩
   rw [hxx] at t0 t1 t2 HYX
   clear hxx
   obtain ⟨xk, xn, xt⟩ := x
   unfold Tk.V tokV at HYX
   simp only at t0 t1 t2 HYX
   have HZ := Lib.hid (row_zero HR.out (by decide))
   obtain ⟨c, rfl⟩ : ∃ c, cap = i + c + 1 := ⟨cap - i - 1, by omega⟩
   rw [show i + c + 1 - i = c + 1 by omega] at HR hgc
   obtain ⟨i0, hi0, hz0, hz1, hz2⟩ := info_parts infoTx2
   have HGC := Lib.hid hgc
   by_cases hl2 : i + 1 < ts.length
   ·obtain ⟨m, hm⟩ : ∃ m, ts.length - i = m + 2 := ⟨ts.length - i - 2, by omega⟩
    rw [hm] at HR hgc HGC
    have hc0 : c ≠ 0 := by omega
    have hmc : m + 1 <= c := by omega
    have hgn : n₀ <= g := by
     have := (HZ.out.lt g rfl).1
     omega
    have HAF : Hid (∀ w1, (wr.alloc (Obj.cells #[.slice (some ⟨b, o + i * 4 + 4, none⟩) (m + 1) c] 143)).grownBy w1 (some g) -> Below n₀ W w1 /\ J (ts.take i) w1 /\ Below n₀ wr w1) := fun w1 hgr => by
     have hb1 : Below n₀ wr w1 := by
      refine ((Below.refl n₀ wr).alloc (Nat.le_trans hn₀ HB.out.size) _).grown hgr (by have := HB.out.size; simp; omega) fun k e => ?_
      cases e
      exact hgn
     refine ⟨HB.out.trans hb1, ?_, hb1⟩
     refine HJ.out _ _ _ (some g) (HJ.out _ _ _ none HJs.out (World.grownBy_alloc _ _ none) (fun _ e => by cases e)) hgr fun k e => ?_
     cases e
     obtain ⟨c0, f0, h0⟩ := row_blk HZ.out rfl
     exact ⟨(HZ.out.lt g rfl).1, c0, f0, by rw [old2 _ _ hgl]; exact h0⟩
    gi_wp2_with (gi_at_builtin; refine wpListIn_append_own _ rfl _ _ 232 rfl W.heap.size 143 i0 (.slice none 0 0) 1 24 Tryz.underlying232 hi0 hz0 hz1 hz2 rfl (by decide) _ _ _ rfl (HZ.out.alloc _) ⟨wr.heap.size, 0, none⟩ 1 1 [.slice (some ⟨b, o + i * 4 + 4, none⟩) (m + 1) c] rfl rfl (qDT _ _ _) (by simp [Value.oneCell']) (by decide) (by decide) (by have := HB.out.size; simp; omega) ?_; intro v' w1 hown hgr _; obtain ⟨la2, lc2, rfl⟩ := qG hown; obtain ⟨hbw1, hj1, hbr1⟩ := HAF.out w1 hgr; have d0 := (hbr1.cell (by show b < n₀; exact hb)).trans t0; have d1 := (hbr1.cell (by show b < n₀; exact hb)).trans t1; have d2 := (hbr1.cell (by show b < n₀; exact hb)).trans t2; have d3 := (hbr1.cell (by show b < n₀; exact hb)).trans t3; have hb1 : b < w1.heap.size := Nat.lt_of_lt_of_le hbw hbr1.size; obtain ⟨fn, tmps, assign, body, hy, hR⟩ := HYX.out w1 hj1; have HBW := Lib.hid hbw1; have HOW := Lib.hid hown; clear hbw1 hj1 hbr1 hgr hown t0 t1 t2 t3 hgc HZ HR)
    refine hR.mono ?_
    rintro e W3 ⟨rfl, hj3, hk3⟩
    have HO3 : Hid (W3.ownsRow W.heap.size 143 1 (.slice la2 1 lc2) 1 [.slice (some ⟨b, o + i * 4 + 4, none⟩) (m + 1) c]) := hk3.row hn₁ HOW.out
    have HB3 : Hid (Below n₀ W W3) := HBW.out.trans hk3.1
    have HJ3 := Lib.hid hj3
    clear hj3 hk3 HOW HBW d0 d1 d2 d3
    gi_wp2
    go_roundw
    case rel =>
     refine ⟨1, i + 1, by omega, ?_, .inr ⟨rfl, hl2⟩, HJ3, HB3⟩
     rw [if_neg (by decide), show o + (i + 1) * 4 = o + i * 4 + 4 by omega, show ts.length - (i + 1) = m + 1 by omega, show i + c + 1 - (i + 1) = c by omega]
     exact HO3
    case measure =>
     obtain ⟨g3, rfl, _, hg3, _⟩ := qKQ HO3.out
     simp only [leftT, hg3, HGC.out]
     omega
   ·have hm : ts.length - i = 1 := by omega
    rw [hm] at HR hgc HGC
    obtain ⟨fn, tmps, assign, body, hy, hR⟩ := HYX.out wr HJs.out
    have hn1 : ¬ (1 : Int) < 1 := by decide
    clear HR
    gi_wp2
    refine hR.mono ?_
    rintro e W3 ⟨rfl, hj3, hk3⟩
    have HO3 : Hid (W3.ownsRow W.heap.size 143 1 (.slice (some ⟨g, 0, none⟩) 0 lc) 0 []) := hk3.row hn₁ HZ.out
    have HB3 : Hid (Below n₀ W W3) := HB.out.trans hk3.1
    have HJ3 := Lib.hid hj3
    clear hj3 hk3 HB HZ t0 t1 t2 t3 hgc
    gi_wp2
    go_roundw
    case rel => exact ⟨0, i + 1, by omega, HO3, .inl ⟨rfl, by omega⟩, HJ3, HB3⟩
    case measure =>
     simp only [leftT, HGC.out]
     omega
theorem qIJ (F : Fence) (n : Nat) (hF : F.fn 224) (hro : F.round = none) (hn : 1 <= n) (Bn n₀ n₁ b o cap : Nat) (ts : List Tk) (h0 : 0 < ts.length) (hb : b < n₀) (w : World) (hBn : Bn < w.heap.size) (hn₀ : n₀ <= w.heap.size) (hn₁ : n₁ <= w.heap.size)
  (hc : w.cell? ⟨Bn, 0, none⟩ = some (.slice (some ⟨b, o, none⟩) ts.length cap)) (h : qI w (.slice (some ⟨b, o, none⟩) ts.length cap) ts) :
  qLs F n Tryz.prog 224 #[.pointer (some ⟨Bn, 0, none⟩)] (fun x : Tk => #[x.V]) (KpT n₀ n₁) 143 ts w := fun l J W hW hJ hY hj =>
 all1_in F n hF hro hn l Bn n₀ n₁ b o cap ts h0 hb J W (Nat.le_trans hn₀ hW.size) (Nat.le_trans hn₁ hW.size) hJ hY (by rw [hW.cell (by exact hBn)]; exact hc) (h.below hW (Nat.le_refl _)) hj
attribute [local go_sem] Oper.semAt_some
def tkCs (ts : List Tk) : List Value := ts.flatMap fun t => [.int .i64 t.k, .int .i64 t.n, .string t.t, .pointer none]
theorem qJ5 (ts : List Tk) (t : Tk) : tkCs (ts ++ [t]) = tkCs ts ++ [.int .i64 t.k, .int .i64 t.n, .string t.t, .pointer none] := by simp [tkCs]
theorem qGQ (w : World) (t : TypeId) (a b c d : Value) (j : Nat) (u : Value) (h : [a, b, c, d][j]? = some u) : (w.alloc (.cells #[a, b, c, d] t)).cell? ((⟨w.heap.size, 0, none⟩ : Addr).add j) = some u := by
 have hadd : (⟨w.heap.size, 0, none⟩ : Addr).add j = ⟨w.heap.size, 0 + j, none⟩ := by unfold Addr.add; split <;> simp_all
 rw [hadd, Nat.zero_add]
 exact qB (qH _ _ rfl) (by simpa using h)
theorem flat_any (b o cap : Nat) (ts : List Tk) (w : World) (h : qI w (.slice (some ⟨b, o, none⟩) ts.length cap) ts) (h0 : 0 < ts.length) (hn : ts.length <= 1000) :
  Calls Tryz.prog 158 #[.slice (some ⟨b, o, none⟩) ts.length cap] w fun r w' => (∃ v, r = .returned v /\ w'.ownsRow w.heap.size 180 4 v ts.length (tkCs ts)) /\ Below w.heap.size w w' := by
 obtain ⟨i0, hi, hz0, hz1, hz2⟩ := info_parts qKd
 refine callsIn_wide.1 (callsIn_of_wp_marks (n := 10) Tryz.func158 rfl trivial ?_ rfl)
 simp only [Tryz.ntmps158, List.size_toArray, List.length_cons, List.length_nil, Nat.reduceAdd, Nat.reduceSub, Array.replicate_succ, Array.replicate_zero, List.push_toArray, List.append_toArray, List.nil_append, List.cons_append]
 gi_wp2_with (refine ⟨trivial, ?_⟩; gi_at_call 190; refine (all_in Fence.wide (10 - 1) trivial rfl _ _ _ _).mono ?_; rintro e w' ⟨rfl, rfl⟩)
 obtain ⟨W0, hW0⟩ : ∃ W0, (w.alloc (Obj.cells #[Value.slice none 0 0] 143)).alloc (Obj.cells #[Value.slice (some ⟨b, o, none⟩) ts.length cap] 143) = W0 := ⟨_, rfl⟩
 have hsz : W0.heap.size = w.heap.size + 2 := by rw [<- hW0]; simp
 have hB0 : Below w.heap.size w W0 := by rw [<- hW0]; go_grown
 have bO : Boxed W0 w.heap.size 143 (.slice none 0 0) := by
  rw [<- hW0]
  exact (Boxed.new w _ _).alloc _
 have bN : W0.cell? ⟨w.heap.size + 1, 0, none⟩ = some (.slice (some ⟨b, o, none⟩) ts.length cap) := by
  rw [<- hW0]
  exact qB (qH _ _ (by simp)) rfl
 rw [hW0]
 have hbl : b < w.heap.size := by
  obtain ⟨_, _, e, _, _, hcl⟩ := h
  injection e with e _ _
  obtain ⟨b', o', e2, hlt, _⟩ := hcl h0
  rw [<- e] at e2
  injection e2 with e2
  injection e2 with e2 _ _
  omega
 refine qD2 rfl (by decide) (gf := 224) (lb := #[.pointer (some ⟨w.heap.size + 1, 0, none⟩)]) rfl trivial (enters_of Tryz.func224 (by kernel_rfl) rfl)
  (qIJ Fence.wide (10 - 1) trivial rfl (by decide) (w.heap.size + 1) w.heap.size (w.heap.size + 2) b o cap ts h0 hbl W0 (by omega) (by omega) (by omega) bN (h.below hB0 (Nat.le_refl _)))
  (fun A B C h k => h.trans k) ?hkb (Below.refl _ _) (fun _ => rfl)
  (fun pre W => (∃ v, Boxed W w.heap.size 143 v /\ W.ownsRow w.heap.size 180 4 v pre.length (tkCs pre) /\ True) /\ Below w.heap.size w W /\ w.heap.size + 2 <= W.heap.size)
  (OwnFrom.and (Own.from (holdsRow_own w.heap.size w.heap.size 143 180 4 (fun pre : List Tk => pre.length) (fun pre => tkCs pre) (fun _ _ => True)) _) (OwnFrom.and (ownFrom_below (Nat.le_refl _) (by omega)) (fun _ _ _ _ hs hg _ => Nat.le_trans hs hg.size)))
  ?habd ⟨⟨_, bO, World.ownsRow_nil _ _ _ _, trivial⟩, hB0, by omega⟩
  (fun x a' W => ∃ Bx, w.heap.size + 2 <= Bx /\ W.heap[Bx]? = some (.cells #[.int .i64 x.k, .int .i64 x.n, .string x.t] 171 (0, 0)) /\ a' = { tmps := #[.slice (some ⟨b, o, none⟩) ts.length cap, undef, .slice none 0 0, .pointer (some ⟨w.heap.size, 0, none⟩), .pointer (some ⟨Bx, 0, none⟩), .slice (some ⟨b, o, none⟩) ts.length cap, .func (.func 224) #[] #[.pointer (some ⟨w.heap.size + 1, 0, none⟩)], x.V, undef, undef, undef, undef, undef, undef], defers := [] })
  ?hax ?assign ?body ?done
 case hkb =>
  intro W l ob ob' hl ho hc
  refine ⟨(Below.refl _ W).grown (grownBy_putObj' W l ob') (by have := qC ho; omega) (fun k e => by cases e; omega), fun i c f hi hb => ?_⟩
  rw [World.putObj_heap_other (by rintro rfl; rw [ho] at hb; cases hb; cases hc)]
  exact hb
 case habd =>
  rintro pre X Y r ⟨⟨v, hv, hrow, _⟩, hB, hZ⟩ hg hr
  have hlo : ∀ k, r = some k -> w.heap.size + 2 <= k /\ ∃ c f, X.heap[k]? = some (.cells c 143 f) := fun k e => ⟨by have := (hr k e).1; omega, (hr k e).2⟩
  refine ⟨⟨v, hv.kept hg (fun e => by have := (hlo _ e.symm).1; omega), hrow.kept hg ?_, trivial⟩, hB.grown hg hB.size (fun k e => by have := (hlo k e).1; omega), Nat.le_trans hZ hg.size⟩
  rcases hrow.2 with ⟨rfl, _⟩ | ⟨g, cap', cur, rfl, _, hgb, _⟩
  ·exact .inl rfl
  ·refine .inr fun e => ?_
   obtain ⟨_, c, f, h2⟩ := hlo g e.symm
   rw [hgb] at h2
   injection h2 with h2
   injection h2 with _ h2
   exact absurd h2 (by decide)
 case hax =>
  rintro ⟨x, a'⟩ X Y r ⟨Bx, h1, h2, h3⟩ hg hr
  refine ⟨Bx, h1, ?_, h3⟩
  rw [hg.block Bx (qC h2) (fun e => ?_)]
  ·exact h2
  ·obtain ⟨_, ob, h4, h5⟩ := hr Bx e.symm
   rw [h2] at h4
   cases h4
   cases h5
 case assign =>
  intro l pre x W K hi hK
  obtain ⟨xk, xn, xt⟩ := x
  unfold Tk.V tokV at *
  obtain ⟨⟨v, hv, hrow, _⟩, hB, hZ⟩ := hi
  gi_wp2
  exact hK _ _ ((KeepsOthers.alloc _ _).from _) ⟨(Below.refl _ W).alloc hB.size _, fun i c f _ hb => by rw [old2 _ _ (qC hb)]; exact hb⟩ ⟨⟨v, hv.alloc _, hrow.alloc _, trivial⟩, hB.alloc hB.size _, by simp; omega⟩ ⟨W.heap.size, hZ, qH _ _ rfl, rfl⟩
 case body =>
  rintro l pre ⟨xk, xn, xt⟩ rest a' W hx ⟨⟨v, hv, hrow, _⟩, hB, hZ⟩ ⟨Bx, hBx, bX, rfl⟩
  have hc := hv.cell
  have b0 : W.cell? ⟨Bx, 0, none⟩ = some (.int .i64 xk) := qB bX rfl
  have b1 : W.cell? ⟨Bx, 1, none⟩ = some (.int .i64 xn) := qB bX rfl
  have b2 : W.cell? ⟨Bx, 2, none⟩ = some (.string xt) := qB bX rfl
  have hlen : pre.length < ts.length := by rw [hx]; simp
  unfold Tk.V tokV at *
  simp only at *
  have hkp : Hid (∀ w1 v', (W.alloc (.cells #[.int .i64 xk, .int .i64 xn, .string xt, .pointer none] 180)).grownBy w1 v.ownBlock -> ∀ (i : Nat) (c : Array Value) (f : Nat × Nat), w.heap.size + 2 <= i -> W.heap[i]? = some (.cells c 143 f) -> (w1.setCell ⟨w.heap.size, 0, none⟩ v').heap[i]? = some (.cells c 143 f)) := fun w1 v' hgr i c f hi hb => by
   rw [Below.heap_setCell _ _ _ _ (by show i ≠ w.heap.size; omega), hgr.block i (by have := qC hb; simp; omega) (fun e => ?_), old2 _ _ (qC hb)]
   ·exact hb
   ·rcases hrow.2 with ⟨rfl, _⟩ | ⟨g, cap', cur, rfl, _, hgb, _⟩
    ·cases e
    ·simp only [Value.ownBlock, Option.some.injEq] at e
     subst e
     rw [hb] at hgb
     injection hgb with hgb
     injection hgb with _ hgb
     exact absurd hgb (by decide)
  gi_wp2_with (gi_at_builtin; refine wpListIn_append_own _ rfl _ _ 143 rfl w.heap.size 180 i0 (.agg #[.int .i64 0, .int .i64 0, .string ⟨#[]⟩, .pointer none]) 4 40 Tryz.underlying143 hi hz0 hz1 hz2 rfl (by decide) _ _ _ rfl (hrow.alloc _) ⟨W.heap.size, 0, none⟩ 1 1 [.int .i64 xk, .int .i64 xn, .string xt, .pointer none] rfl rfl (qGQ _ _ _ _ _ _) (by simp [Value.oneCell']) (by unfold maxLen; omega) (by omega) (by have := hB.size; simp; omega) ?_; intro v' w1 hown' hgrow _; obtain ⟨g', cap', rfl⟩ := ownsRow_succ hown'; obtain ⟨hv1, hv2, hr2, hk2, hb2⟩ := hv.appended (by decide) hrow hB.size (Nat.le_refl _) hown' hgrow; have hc1 := hv1.cell; have hf1 := hv1.frozen)
  exact ⟨rfl, hk2.from _, ⟨hb2, hkp.out _ _ hgrow⟩, ⟨_, hv2, by rw [List.length_append, qJ5]; exact hr2, trivial⟩, hB.trans hb2, Nat.le_trans hZ hb2.size⟩
 case done =>
  rintro D W hD ⟨⟨v, hv, hrow, _⟩, hB, _⟩ hK
  have hc := hv.cell
  gi_wp2
  refine ⟨by simp, .inl ⟨_, _, rfl, run_takeDeferred hK, ?_⟩⟩
  exact ⟨_, results_tmp rfl _ _ _, ⟨_, rfl, ownsRow_putObj hrow _ hK rfl⟩, hB.trans (belowK_b (w := w) (Nat.le_refl _) W D _ _ (by omega) hK rfl rfl)⟩
end Go.Proofs.YtgjmbjahgcndnaaGreatDoor
