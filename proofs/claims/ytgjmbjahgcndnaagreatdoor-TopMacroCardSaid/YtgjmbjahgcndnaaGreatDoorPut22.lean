import Derived.Test.YtgjmbjahgcndnaaGreatDoorPut20
import Derived.Test.YtgjmbjahgcndnaaGreatDoorPut13
set_option maxHeartbeats 8000000
set_option maxRecDepth 100000
namespace Go.Proofs.YtgjmbjahgcndnaaGreatDoor.Li
open Go.RowKit Go.Maps Go.MapKept
theorem qE9 (w : World) : (zeroValue 3).run Tryz.prog w = .ok (.int .i64 0) w := by kernel_rfl
theorem qCo {n : List UInt8} {x : Sy} : ∀ {s : List Sy}, (∀ y, y ∈ s -> 0 <= y.pos) -> qk n (s ++ [x]) = if 0 <= qk n s then qk n s else if x.name = n then x.pos else -1
 | [], _ => by simp [qk]
 | y :: s, h => by
   have ih := qCo (n := n) (x := x) (s := s) fun z hz => h z (List.mem_cons_of_mem _ hz)
   rw [List.cons_append, qk, qk, ih]
   by_cases hy : y.name = n
   ·rw [if_pos hy, if_pos hy, if_pos (h y List.mem_cons_self)]
   ·rw [if_neg hy, if_neg hy]
structure PM (D : DataW Unit) (s : List Sy) : Prop where
 im : IsMap D
 has : ∀ n, Maps.has D (.string n) = decide (0 <= qk n s)
 at' : ∀ n z, 0 <= qk n s -> D.atKey (.string n) z = .lit (.int .i64 (qk n s))
 pos : ∀ x, x ∈ s -> 0 <= x.pos
theorem PM.nil : PM (.map []) [] := ⟨isMap_empty, fun _ => rfl, fun _ _ h => absurd h (by show ¬ (0 : Int) <= -1; decide), fun _ h => by cases h⟩
theorem PM.snoc {D : DataW Unit} {s : List Sy} (h : PM D s) {x : Sy} (h0 : qk x.name s < 0) (hx : 0 <= x.pos) : PM (D.put (.string x.name) (.lit (.int .i64 x.pos))) (s ++ [x]) := by
 refine ⟨h.im.put _ _, fun n => ?_, fun n z hn => ?_, fun y hy => ?_⟩
 ·rw [qCo h.pos]
  by_cases hn : x.name = n
  ·subst hn
   rw [has_put_same h.im (by trivial), if_neg (by omega), if_pos rfl]
   simp [hx]
  ·rw [has_put_other (fun e => hn (by injection e with e; exact e.symm)), h.has]
   by_cases hw : 0 <= qk n s
   ·rw [if_pos hw]
   ·rw [if_neg hw, if_neg hn]; simp [hw]
 ·rw [qCo h.pos] at hn ⊢
  by_cases hq : x.name = n
  ·subst hq
   rw [atKey_put_same h.im (by trivial), if_neg (by omega), if_pos rfl]
  ·rw [atKey_put_other (fun e => hq (by injection e with e; exact e.symm))]
   by_cases hw : 0 <= qk n s
   ·rw [if_pos hw, h.at' n z hw]
   ·rw [if_neg hw, if_neg hq] at hn
    exact absurd hn (by decide)
 ·rcases List.mem_append.1 hy with hy | hy
  ·exact h.pos y hy
  ·cases List.mem_singleton.1 hy; exact hx
structure LP (w1 W : World) (base : Int) (b : List UInt8) (s : List Sy) (bv sv : Value) (mb c1 c2 : Nat) (D : DataW Unit) : Prop where
 lo : LO w1 W base b s bv sv
 mp : W.ownsMap Tryz.prog 9 (plainElem Tryz.prog 3) mb s.length D
 pm : PM D s
 q1 : W.heap[c1]? = some (.cells #[.pointer (some ⟨w1.heap.size, 0, none⟩)] 93 (0, 0))
 q2 : W.heap[c2]? = some (.cells #[.map (some mb)] 89 (0, 0))
 ne : w1.heap.size < mb
theorem qDw {W : World} {base size m mb n : Nat} {e : TypeId} {v : Value} {ys : List Value} {D : DataW Unit} (h : W.ownsRow base e size v m ys) (hm : W.ownsMap Tryz.prog 9 (plainElem Tryz.prog 3) mb n D) : some mb ≠ v.ownBlock := by
 obtain ⟨es, clock, hb, _⟩ := hm
 rcases h.2 with ⟨rfl, _⟩ | ⟨g, cap, cur, rfl, _, hg, _⟩
 ·simp [Value.ownBlock]
 ·intro e0
  simp only [Value.ownBlock, Option.some.injEq] at e0
  subst e0
  rw [hb] at hg
  cases hg
section
variable {w1 W W' : World} {base : Int} {b : List UInt8} {s : List Sy} {bv sv : Value} {mb c1 c2 : Nat} {D : DataW Unit}
theorem LP.go (h : LP w1 W base b s bv sv mb c1 c2 D) (hb : Below W.heap.size W W') : LP w1 W' base b s bv sv mb c1 c2 D :=
 ⟨h.lo.go hb, h.mp.kept (ogbelow none hb (Nat.le_refl _)) (by simp), h.pm, by rw [hb.block _ (Array.getElem?_eq_some_iff.1 h.q1).1]; exact h.q1, by rw [hb.block _ (Array.getElem?_eq_some_iff.1 h.q2).1]; exact h.q2, h.ne⟩
theorem LP.keep (h : LP w1 W base b s bv sv mb c1 c2 D) (hk : qi W W') : W'.heap[c1]? = some (.cells #[.pointer (some ⟨w1.heap.size, 0, none⟩)] 93 (0, 0)) /\ W'.heap[c2]? = some (.cells #[.map (some mb)] 89 (0, 0)) :=
 ⟨hk.2 _ _ _ _ h.q1 (by decide) (by decide) (by decide), hk.2 _ _ _ _ h.q2 (by decide) (by decide) (by decide)⟩
theorem LP.other (h : LP w1 W base b s bv sv mb c1 c2 D) {q : Nat} {c : Array Value} {t : TypeId} {f : Nat × Nat} (hq : W.heap[q]? = some (.cells c t f)) (hw : w1.heap.size <= q) (t1 : t ≠ 5) (t2 : t ≠ 81) (t3 : t ≠ 34) (t4 : t ≠ 93) (t5 : t ≠ 89) (i : Nat) (x : Value) :
  LP w1 (W.setCell ⟨q, i, none⟩ x) base b s bv sv mb c1 c2 D := by
 have hne : ∀ {p : Nat} {c' : Array Value} {t' : TypeId} {f' : Nat × Nat}, W.heap[p]? = some (.cells c' t' f') -> t' ≠ t -> p ≠ q := by
  intro p c' t' f' hp ht e
  subst e
  rw [hq] at hp
  injection hp with hp
  injection hp with _ h2
  exact ht h2.symm
 have hg : W.grownBy (W.setCell ⟨q, i, none⟩ x) (some q) := ogset W q i x
 have hrow : ∀ {base size m : Nat} {e : TypeId} {v : Value} {ys : List Value}, W.ownsRow base e size v m ys -> e ≠ t -> (W.setCell ⟨q, i, none⟩ x).ownsRow base e size v m ys := by
  intro base size m e v ys hr he
  refine hr.kept hg ?_
  rcases hr.2 with ⟨rfl, _⟩ | ⟨g, cap, cur, rfl, _, hgb, _⟩
  ·exact .inl rfl
  ·exact .inr (fun e0 => hne hgb he (by simpa [Value.ownBlock] using e0))
 refine ⟨⟨h.lo.bel.setCell hw _, ?_, ⟨hrow h.lo.by'.1 (Ne.symm t1), by simpa using h.lo.by'.2⟩, hrow h.lo.sy (Ne.symm t2)⟩, h.mp.setCell ?_ _, h.pm, ?_, ?_, h.ne⟩
 ·rw [Below.heap_setCell _ _ _ _ (hne h.lo.box (Ne.symm t3))]; exact h.lo.box
 ·intro e
  obtain ⟨es, clock, hb, _⟩ := h.mp
  have e2 : mb = q := e
  subst e2
  rw [hb] at hq
  cases hq
 ·rw [Below.heap_setCell _ _ _ _ (hne h.q1 (Ne.symm t4))]; exact h.q1
 ·rw [Below.heap_setCell _ _ _ _ (hne h.q2 (Ne.symm t5))]; exact h.q2
theorem LP.appB (h : LP w1 W base b s bv sv mb c1 c2 D) {x : Value} {news : List UInt8} (hx : qg W x news) (hl : b.length + news.length <= 140737488355328) :
  ∃ v' W', (∀ ty, (Builtin.append_ #[31, 31] ty #[bv, x]).run Tryz.prog W = .ok v' W') /\ Out W' (w1.heap.size + 1) v' (b ++ news) /\ W.grownBy W' bv.ownBlock := qBP h.lo.by' hx hl
theorem LP.mapped (h : LP w1 W base b s bv sv mb c1 c2 D) (hg : W.grownBy W' (some mb)) : LO w1 W' base b s bv sv /\ qi W W' := by
 have hz := h.lo.size
 obtain ⟨es, clock, hmb, _⟩ := id h.mp
 have hne : ∀ {p : Nat} {c : Array Value} {t : TypeId} {f : Nat × Nat}, W.heap[p]? = some (.cells c t f) -> some p ≠ some mb := by
  intro p c t f hp e
  injection e with e
  subst e
  rw [hmb] at hp
  cases hp
 have hkeep : ∀ {q : Nat} {c : Array Value} {t : TypeId} {f : Nat × Nat}, W.heap[q]? = some (.cells c t f) -> W'.heap[q]? = some (.cells c t f) := fun hb => by
  rw [hg.block _ (Array.getElem?_eq_some_iff.1 hb).1 (hne hb)]; exact hb
 have hr : ∀ {base size m : Nat} {e : TypeId} {v : Value} {ys : List Value}, W.ownsRow base e size v m ys -> W'.ownsRow base e size v m ys := by
  intro base size m e v ys hr
  refine hr.kept hg ?_
  rcases hr.2 with ⟨rfl, _⟩ | ⟨g, cap, cur, rfl, _, hgb, _⟩
  ·exact .inl rfl
  ·exact .inr (fun e0 => hne hgb (by simpa [Value.ownBlock] using e0))
 exact ⟨⟨h.lo.bel.grown hg (by omega) (fun j hj => by cases hj; have := h.ne; omega), hkeep h.lo.box, ⟨hr h.lo.by'.1, Nat.le_trans h.lo.by'.2 hg.size⟩, hr h.lo.sy⟩, hg.size, fun q c t f hb _ _ _ => hkeep hb⟩
end
theorem qJN (o : Ob) (c s r : Value) (n : Int) (w : World) (h : ObIn w c s r o) (hnl : ∀ x, x ∈ o.syms -> x.name.length <= maxLen) :
  Calls Tryz.prog 38 #[.agg #[c, s, r], .int .i64 n] w fun e w' => e = .returned (.int .i64 (qAD qL o)) /\ Below w.heap.size w w' := by
 have h2 := h.below (qE w (.cells #[c, s, r] 49)) (Nat.le_refl _)
 have HW := Lib.hid (qBp o c s r _ h2.1 h2.2.1 h2.2.2 hnl)
 have HB := Lib.hid (qE w (.cells #[c, s, r] 49))
 obtain ⟨q1, q2, rfl, q3⟩ := h.1
 obtain ⟨q4, q5, rfl, q6⟩ := h.2.1
 obtain ⟨q7, q8, rfl, q9⟩ := h.2.2
 unfold obV at HW
 clear q3 q6 q9 h h2 hnl
 go_enter Tryz.func38, Tryz.ntmps38
 go_wp2_with (first | (go_at_call 24; refine HW.out.mono ?_; rintro e w1 ⟨rfl, hb1⟩; have HB1 := Lib.hid (HB.out.trans (hb1.mono (by simp))); clear hb1) | fail)
 go_ret
 exact ⟨rfl, HB1.out⟩
theorem qI7 (p m : Value) (ad : Addr) (mb : Nat) (hp : p = .pointer (some ad)) (hm : m = .map (some mb)) (w : World) :
  Calls Tryz.prog 39 #[p, m] w fun e w' => e = .returned (.func (.func 61) #[] #[.pointer (some ⟨w.heap.size, 0, none⟩), .pointer (some ⟨w.heap.size + 1, 0, none⟩)]) /\ w' = (w.alloc (.cells #[p] 93)).alloc (.cells #[m] 89) := by
 subst hp hm
 go_enter Tryz.func39, Tryz.ntmps39
 go_wp2
 go_ret
 exact ⟨rfl, rfl⟩
theorem qGW (p m : Value) (ad : Addr) (mb : Nat) (hp : p = .pointer (some ad)) (hm : m = .map (some mb)) (w : World) :
  Calls Tryz.prog 40 #[p, m] w fun e w' => e = .returned (.func (.func 62) #[] #[.pointer (some ⟨w.heap.size + 1, 0, none⟩), .pointer (some ⟨w.heap.size, 0, none⟩)]) /\ w' = (w.alloc (.cells #[p] 93)).alloc (.cells #[m] 89) := by
 subst hp hm
 go_enter Tryz.func40, Tryz.ntmps40
 go_wp2
 go_ret
 exact ⟨rfl, rfl⟩
def qCU (s : List Sy) (A : Int) (r : Re) (n e : Int) : Prop :=
 (e = 6 /\ (if r.name = [] then A else qk r.name s) < 0) \/
 (e = 3 /\ ¬ (if r.name = [] then A else qk r.name s) < 0 /\ (r.size = 2 /\ (65535 < wrap32 ((if r.name = [] then A else qk r.name s) + r.add) \/ wrap32 ((if r.name = [] then A else qk r.name s) + r.add) < -32768))) \/
 (e = 0 /\ ¬ (if r.name = [] then A else qk r.name s) < 0 /\ ¬ (r.size = 2 /\ (65535 < wrap32 ((if r.name = [] then A else qk r.name s) + r.add) \/ wrap32 ((if r.name = [] then A else qk r.name s) + r.add) < -32768)) /\ n = wrap32 ((if r.name = [] then A else qk r.name s) + r.add))
theorem asked6 {s : List Sy} {A p : Int} {r : Re} (n : Int) (hp : (if r.name = [] then A else qk r.name s) = p) (h : p < 0) : qCU s A r n 6 := by subst hp; exact .inl ⟨rfl, h⟩
theorem asked3 {s : List Sy} {A p : Int} {r : Re} (n : Int) (hp : (if r.name = [] then A else qk r.name s) = p) (h : ¬ p < 0) (h2 : r.size = 2 /\ (65535 < wrap32 (p + r.add) \/ wrap32 (p + r.add) < -32768)) : qCU s A r n 3 := by subst hp; exact .inr (.inl ⟨rfl, h, h2⟩)
theorem asked0 {s : List Sy} {A p : Int} {r : Re} (hp : (if r.name = [] then A else qk r.name s) = p) (h : ¬ p < 0) (h2 : ¬ (r.size = 2 /\ (65535 < wrap32 (p + r.add) \/ wrap32 (p + r.add) < -32768))) : qCU s A r (wrap32 (p + r.add)) 0 := by subst hp; exact .inr (.inr ⟨rfl, h, h2, rfl⟩)
theorem qBG (n n' : Int) (w : World) (h : wrap32 n = n') : Calls Tryz.prog 58 #[.int .i64 n] w fun e w' => e = .returned (.int .i64 n') /\ w = w' := by
 subst h
 refine (qED n w).mono ?_
 rintro e w' ⟨h1, h2⟩
 first
  | exact ⟨h1, h2⟩
  | exact ⟨h1, h2.symm⟩
theorem qJ9 (r : Re) (A : Int) (s : List Sy) (mb : Nat) (D : DataW Unit) (w : World) (hA : 0 <= A) (hm : w.ownsMap Tryz.prog 9 (plainElem Tryz.prog 3) mb s.length D) (hp : PM D s) (hnl : r.name.length <= maxLen) (hz24 : r.size = 2 \/ r.size = 4) :
  Calls Tryz.prog 63 #[.agg #[.int .i64 r.pos, .int .i64 r.size, .string ⟨r.name.toArray⟩, .int .i64 r.add], .int .i64 A, .map (some mb)] w fun e w' => ∃ n x, e = .returned (.tuple #[.int .i64 n, .int .i64 x]) /\ Below w.heap.size w w' /\ qCU s A r n x := by
 obtain ⟨rp, rz, rn, ra⟩ := r
 simp only at *
 have hkey : keyOf Tryz.prog 9 (.string ⟨rn.toArray⟩) = some (.string rn) := Go.WideMaps.keyOf_string_mk Tryz.underlying9 (s := ⟨rn.toArray⟩) (by simpa [ByteArray.size] using hnl)
 have hhas := hp.has rn
 have HAT := Lib.hid (hp.at' rn (.lit (.int .i64 0)))
 have HMA := Lib.hid (hm.alloc (.cells #[.int .i64 rp, .int .i64 rz, .string ⟨rn.toArray⟩, .int .i64 ra] 120))
 have HB := Lib.hid (qE w (.cells #[.int .i64 rp, .int .i64 rz, .string ⟨rn.toArray⟩, .int .i64 ra] 120))
 clear hm hp hnl
 obtain ⟨p, HPP⟩ : ∃ p, Hid ((if rn = [] then A else qk rn s) = p) := ⟨_, rfl⟩
 have HPA : Hid (rn = [] -> p = A) := fun h => by rw [<- HPP.out, if_pos h]
 have HPW : Hid (rn ≠ [] -> p = qk rn s) := fun h => by rw [<- HPP.out, if_neg h]
 obtain ⟨n, HNN⟩ : ∃ n, Hid (wrap32 (p + ra) = n) := ⟨_, rfl⟩
 have HQ6 : Hid (p < 0 -> ∀ n, qCU s A ⟨rp, rz, rn, ra⟩ n 6) := fun h n => asked6 n HPP.out h
 have HQ3 : Hid (¬ p < 0 -> rz = 2 /\ (65535 < n \/ n < -32768) -> ∀ n, qCU s A ⟨rp, rz, rn, ra⟩ n 3) := fun h h2 n => asked3 n HPP.out h (by rw [HNN.out]; exact h2)
 have HQ0 : Hid (¬ p < 0 -> ¬ (rz = 2 /\ (65535 < n \/ n < -32768)) -> qCU s A ⟨rp, rz, rn, ra⟩ n 0) := fun h h2 => by
  have := asked0 (r := ⟨rp, rz, rn, ra⟩) HPP.out h (by rw [HNN.out]; exact h2)
  rwa [HNN.out] at this
 clear HPP
 go_enter Tryz.func63, Tryz.ntmps63
 by_cases hn0 : rn = []
 ·have n1 : (rn == []) = true := by simpa using hn0
  obtain rfl := HPA.out hn0
  have hp0 : ¬ p < 0 := by omega
  clear hn0 HPA HPW HQ6
  by_cases hfar : rz = 2 /\ (65535 < n \/ n < -32768)
  ·have HQ := Lib.hid (HQ3.out hp0 hfar 0)
   obtain ⟨rfl, hfar⟩ := hfar
   by_cases hf1 : n < -32768
   ·clear hfar hz24
    go_wp2_with (first | (go_at_call 58; refine (qBG _ n _ (by first | exact HNN.out | (rw [qBc]; exact HNN.out))).mono ?_; rintro e w5 ⟨rfl, rfl⟩) | fail)
    go_ret2
    exact ⟨0, 3, rfl, HB.out, HQ.out⟩
   ·have hf2 : 65535 < n := by omega
    clear hfar hz24
    go_wp2_with (first | (go_at_call 58; refine (qBG _ n _ (by first | exact HNN.out | (rw [qBc]; exact HNN.out))).mono ?_; rintro e w5 ⟨rfl, rfl⟩) | fail)
    go_ret2
    exact ⟨0, 3, rfl, HB.out, HQ.out⟩
  ·have HQ := Lib.hid (HQ0.out hp0 hfar)
   rcases hz24 with rfl | rfl
   ·have hf1 : ¬ 65535 < n := by omega
    have hf2 : ¬ n < -32768 := by omega
    clear hfar
    go_wp2_with (first | (go_at_call 58; refine (qBG _ n _ (by first | exact HNN.out | (rw [qBc]; exact HNN.out))).mono ?_; rintro e w5 ⟨rfl, rfl⟩) | fail)
    go_ret2
    exact ⟨n, 0, rfl, HB.out, HQ.out⟩
   ·clear hfar
    go_wp2_with (first | (go_at_call 58; refine (qBG _ n _ (by first | exact HNN.out | (rw [qBc]; exact HNN.out))).mono ?_; rintro e w5 ⟨rfl, rfl⟩) | fail)
    go_ret2
    exact ⟨n, 0, rfl, HB.out, HQ.out⟩
 ·have n1 : (rn == []) = false := by simpa using hn0
  have hpw := HPW.out hn0
  rw [<- hpw] at hhas HAT
  clear hn0 HPA HPW hpw
  by_cases hp0 : p < 0
  ·have hq := HQ6.out hp0 0
   have HQ := Lib.hid hq
   rw [decide_eq_false (by omega)] at hhas
   clear hq
   go_wp2_with (first | (at_lookup; refine wpList_lookup_own_ok_int _ rfl _ _ 89 rfl 9 3 .i64 lawS Tryz.underlying89 Tryz.underlying3 (qE9 _) mb s.length D rfl HMA.out _ _ rfl hkey ?_; intro c hat _; rw [hhas]; clear hat) | fail)
   go_ret2
   exact ⟨0, 6, rfl, HB.out, HQ.out⟩
  ·rw [decide_eq_true (by omega)] at hhas
   have HAT2 := Lib.hid (HAT.out (by omega))
   by_cases hfar : rz = 2 /\ (65535 < n \/ n < -32768)
   ·have HQ := Lib.hid (HQ3.out hp0 hfar 0)
    obtain ⟨rfl, hfar⟩ := hfar
    by_cases hf1 : n < -32768
    ·clear hfar hz24
     go_wp2_with (first | (at_lookup; refine wpList_lookup_own_ok_int _ rfl _ _ 89 rfl 9 3 .i64 lawS Tryz.underlying89 Tryz.underlying3 (qE9 _) mb s.length D rfl HMA.out _ _ rfl hkey ?_; intro c hat _; rw [hhas]; rw [HAT2.out] at hat; injection hat with hat; injection hat with _ hat; subst hat) | (go_at_call 58; refine (qBG _ n _ (by first | exact HNN.out | (rw [qBc]; exact HNN.out))).mono ?_; rintro e w5 ⟨rfl, rfl⟩) | fail)
     go_ret2
     exact ⟨0, 3, rfl, HB.out, HQ.out⟩
    ·have hf2 : 65535 < n := by omega
     clear hfar hz24
     go_wp2_with (first | (at_lookup; refine wpList_lookup_own_ok_int _ rfl _ _ 89 rfl 9 3 .i64 lawS Tryz.underlying89 Tryz.underlying3 (qE9 _) mb s.length D rfl HMA.out _ _ rfl hkey ?_; intro c hat _; rw [hhas]; rw [HAT2.out] at hat; injection hat with hat; injection hat with _ hat; subst hat) | (go_at_call 58; refine (qBG _ n _ (by first | exact HNN.out | (rw [qBc]; exact HNN.out))).mono ?_; rintro e w5 ⟨rfl, rfl⟩) | fail)
     go_ret2
     exact ⟨0, 3, rfl, HB.out, HQ.out⟩
   ·have HQ := Lib.hid (HQ0.out hp0 hfar)
    rcases hz24 with rfl | rfl
    ·have hf1 : ¬ 65535 < n := by omega
     have hf2 : ¬ n < -32768 := by omega
     clear hfar
     go_wp2_with (first | (at_lookup; refine wpList_lookup_own_ok_int _ rfl _ _ 89 rfl 9 3 .i64 lawS Tryz.underlying89 Tryz.underlying3 (qE9 _) mb s.length D rfl HMA.out _ _ rfl hkey ?_; intro c hat _; rw [hhas]; rw [HAT2.out] at hat; injection hat with hat; injection hat with _ hat; subst hat) | (go_at_call 58; refine (qBG _ n _ (by first | exact HNN.out | (rw [qBc]; exact HNN.out))).mono ?_; rintro e w5 ⟨rfl, rfl⟩) | fail)
     go_ret2
     exact ⟨n, 0, rfl, HB.out, HQ.out⟩
    ·clear hfar
     go_wp2_with (first | (at_lookup; refine wpList_lookup_own_ok_int _ rfl _ _ 89 rfl 9 3 .i64 lawS Tryz.underlying89 Tryz.underlying3 (qE9 _) mb s.length D rfl HMA.out _ _ rfl hkey ?_; intro c hat _; rw [hhas]; rw [HAT2.out] at hat; injection hat with hat; injection hat with _ hat; subst hat) | (go_at_call 58; refine (qBG _ n _ (by first | exact HNN.out | (rw [qBc]; exact HNN.out))).mono ?_; rintro e w5 ⟨rfl, rfl⟩) | fail)
     go_ret2
     exact ⟨n, 0, rfl, HB.out, HQ.out⟩
section
variable {w1 W W' : World} {base : Int} {b : List UInt8} {s : List Sy} {bv sv : Value} {mb c1 c2 : Nat} {D : DataW Unit}
theorem LP.told2 {W2 : World} (h : LP w1 W base b s bv sv mb c1 c2 D) {v1 v2 : Value} {b1 b2 : List UInt8} (hg : W.grownBy W' bv.ownBlock) (ho : Out W' (w1.heap.size + 1) v1 b1) (hg2 : W'.grownBy W2 v1.ownBlock) (ho2 : Out W2 (w1.heap.size + 1) v2 b2) :
  qi W (W2.setCell ⟨w1.heap.size, 1, none⟩ v2) /\ LP w1 (W2.setCell ⟨w1.heap.size, 1, none⟩ v2) base b2 s v2 sv mb c1 c2 D /\ W2.cell? ⟨w1.heap.size, 1, none⟩ = some bv /\ W2.frozen? ⟨w1.heap.size, 1, none⟩ = false := by
 have hz := h.lo.size
 have hbox := ho.box hg2 (h.lo.by'.box hg h.lo.box (by decide)) (by decide)
 have hkeep : ∀ {q : Nat} {c : Array Value} {t : TypeId} {f : Nat × Nat}, W.heap[q]? = some (.cells c t f) -> t ≠ 5 -> t ≠ 34 -> (W2.setCell ⟨w1.heap.size, 1, none⟩ v2).heap[q]? = some (.cells c t f) := by
  intro q c t f hb h1 h3
  have hne : q ≠ w1.heap.size := by
   intro e
   subst e
   rw [h.lo.box] at hb
   injection hb with hb
   injection hb with _ h2
   exact h3 h2.symm
  rw [Below.heap_setCell _ _ _ _ hne]
  exact ho.box hg2 (h.lo.by'.box hg hb h1) h1
 have hm1 := h.mp.kept hg (qDw h.lo.by'.1 h.mp)
 have hs1 := h.lo.sy.kept hg (qBD h.lo.by'.1 h.lo.sy (by decide))
 have hz2 : W.heap.size <= W2.heap.size := Nat.le_trans hg.size hg2.size
 refine ⟨⟨by simpa using hz2, fun q c t f hb h1 _ h3 => hkeep hb h1 h3⟩, ⟨⟨?_, ?_, ⟨qAr ho2.1 (by omega), by simpa using ho2.2⟩, qAr (hs1.kept hg2 (qBD ho.1 hs1 (by decide))) (by omega)⟩, (hm1.kept hg2 (qDw ho.1 hm1)).setCell (by have := h.ne; show mb ≠ w1.heap.size; omega) _, h.pm, hkeep h.q1 (by decide) (by decide), hkeep h.q2 (by decide) (by decide), h.ne⟩, qB hbox rfl, qD hbox⟩
 ·exact (ho.grown (h.lo.by'.grown h.lo.bel hg (by omega)) hg2 (by omega)).setCell (Nat.le_refl _) _
 ·rw [_root_.Go.heap_setCell_same W2 _ 1 _ _ v2 hbox]; rfl
theorem LO.appT (h : LO w1 W base b s bv sv) (x : Sy) (g : Nat) (hgb : W.heap[g]? = some (.cells #[.string ⟨x.name.toArray⟩, .int .i64 x.pos] 81 (0, 0))) (hl : s.length <= 5000000000) :
  ∃ v' W', (∀ ty, (Builtin.append_ #[32, 32] ty #[sv, .slice (some ⟨g, 0, none⟩) 1 1]).run Tryz.prog W = .ok v' W') /\ W'.cell? ⟨w1.heap.size, 2, none⟩ = some sv /\ W'.frozen? ⟨w1.heap.size, 2, none⟩ = false /\ W.grownBy W' sv.ownBlock /\ qi W (W'.setCell ⟨w1.heap.size, 2, none⟩ v') /\
   LO w1 (W'.setCell ⟨w1.heap.size, 2, none⟩ v') base b (s ++ [x]) bv v' := by
 obtain ⟨v', W', hr, hc, hf, hg, _, hlo⟩ := h.appS x g hgb hl
 refine ⟨v', W', hr, hc, hf, hg, ⟨by simpa using hg.size, fun q c t f hb h1 h2 h3 => ?_⟩, hlo⟩
 have hne : q ≠ w1.heap.size := by
  intro e
  subst e
  rw [h.box] at hb
  injection hb with hb
  injection hb with _ h4
  exact h3 h4.symm
 rw [Below.heap_setCell _ _ _ _ hne, hg.block q (Array.getElem?_eq_some_iff.1 hb).1 ?_]
 ·exact hb
 ·rcases h.sy.2 with ⟨rfl, _⟩ | ⟨g', cap, cur, rfl, _, hgg, _⟩
  ·simp [Value.ownBlock]
  ·intro e0
   simp only [Value.ownBlock, Option.some.injEq] at e0
   subst e0
   rw [hb] at hgg
   injection hgg with hgg
   injection hgg with _ h4
   exact h2 h4
theorem qGR (w : World) (z : Nat) (hz : z <= maxLen) : qg (w.alloc (.cells (madeCells #[.int .u8 0] z) 5)) (.slice (some ⟨w.heap.size, 0, none⟩) z z) (List.replicate z 0) := by
 refine ⟨some ⟨w.heap.size, 0, none⟩, z, by rw [List.length_replicate], by simpa using hz, fun _ => ⟨w.heap.size, 0, rfl, by simp, fun i hi => ?_⟩⟩
 simp only [List.length_replicate] at hi
 rw [Nat.zero_add]
 refine qB (qK _ _ _) ?_
 simp [madeCells, hi, Nat.mod_one]
end
def Laid (w1 W : World) (base A : Int) (b : List UInt8) (s : List Sy) (mb c1 c2 z : Nat) (o : Ob) (e : Ending) (W' : World) : Prop :=
 qi W W' /\ Below w1.heap.size w1 W' /\ ∃ x, e = .returned (.int .i64 x) /\ ((x = 7 /\ qAt A s o.syms = none) \/ (x = 0 /\ ∃ s' bv' sv' D', s'.length = s.length + o.syms.length /\ qAt A s o.syms = some s' /\ LP w1 W' base (b ++ List.replicate z 0 ++ o.code) s' bv' sv' mb c1 c2 D'))
theorem qGl (o : Ob) (c y r : Value) (A base : Int) (b : List UInt8) (s : List Sy) (bv sv : Value) (mb c1 c2 z : Nat) (D : DataW Unit) (w1 W : World) (hp : LP w1 W base b s bv sv mb c1 c2 D) (ho : ObIn w1 c y r o) (hw : qAD qL o = 0)
  (hnl : ∀ x, x ∈ o.syms -> x.name.length <= maxLen) (hb0 : 0 <= base) (hA : A = base + b.length + z) (hA2 : A <= 2000000) (hsl : s.length <= 2000) :
  Calls Tryz.prog 61 #[.agg #[c, y, r], .int .i64 A, .pointer (some ⟨c1, 0, none⟩), .pointer (some ⟨c2, 0, none⟩)] W fun e W' => Laid w1 W base A b s mb c1 c2 z o e W' := by
 have HIN := Lib.hid ho
 obtain ⟨q1, q2, rfl, hcl, q3⟩ := id ho.1
 obtain ⟨q4, q5, rfl, q6⟩ := id ho.2.1
 obtain ⟨q7, q8, rfl, q9⟩ := id ho.2.2
 have hfew := qBk hw
 obtain ⟨hf1, hf2, hf3⟩ := hfew
 have HSY := Lib.hid (qGY hw)
 have HNL := Lib.hid hnl
 obtain ⟨ba, bc, hbv⟩ := qG hp.lo.by'.1
 subst hbv
 obtain ⟨V, hV⟩ : ∃ V, V = W.alloc (.cells #[.slice q1 o.code.length q2, .slice q4 o.syms.length q5, .slice q7 o.rels.length q8] 49) := ⟨_, rfl⟩
 have HP0 := Lib.hid (hp.go (W' := V) (by rw [hV]; exact qE _ _))
 have HK0 := Lib.hid (qi.of (W := W) (W' := V) (by rw [hV]; exact qE _ _))
 have HOB : Hid (V.heap[W.heap.size]? = some (.cells #[.slice q1 o.code.length q2, .slice q4 o.syms.length q5, .slice q7 o.rels.length q8] 49 (0, 0))) := by unfold Hid; rw [hV]; exact qK _ _ _
 have hmk := run_make_row' (P := Tryz.prog) 31 5 (.int .u8 0) 1 Tryz.underlying31 Oi.info5 rfl .i64 .i64 z (by omega) (by omega)
 have HV := Lib.hid hV
 have HAH := Lib.hid hA
 have hA0 : 0 <= A := by omega
 have hzb : z <= 2000000 := by omega
 have hbb : b.length <= 2000000 := by omega
 clear q3 q6 q9 ho hw hnl hp hcl hV hA
 go_enter Tryz.func61, Tryz.ntmps61
 go_wp2_with fail
 rw [<- HV.out]
 clear HV
 have hS1 : V.heap[c1]? = some (.cells #[.pointer (some ⟨w1.heap.size, 0, none⟩)] 93 (0, 0)) /\ V.heap[w1.heap.size]? = some (.cells #[.int .i64 base, .slice ba b.length bc, sv] 34 (0, 0)) := ⟨HP0.out.q1, HP0.out.lo.box⟩
 refine wp_region_noPanic ?_
 refine wp_region_held_drew (S := fun X => X.heap[c1]? = some (.cells #[.pointer (some ⟨w1.heap.size, 0, none⟩)] 93 (0, 0)) /\ X.heap[w1.heap.size]? = some (.cells #[.int .i64 base, .slice ba b.length bc, sv] 34 (0, 0))) (by kernel_rfl) hS1 (fun hHeld => ?_)
 obtain ⟨V0, hV0⟩ : ∃ X, X = V.drew := ⟨_, rfl⟩
 have hbV : Below V.heap.size V V0 := by rw [hV0]; exact (Below.refl _ _).drew
 have HP1 := Lib.hid (HP0.out.go hbV)
 have HK1 := Lib.hid (HK0.out.trans (qi.of hbV))
 have HOB1 := Lib.hid ((hbV.block _ (Array.getElem?_eq_some_iff.1 HOB.out).1).trans HOB.out)
 rw [<- hV0] at hHeld ⊢
 clear hV0 hbV HP0 HK0 HOB hS1
 refine tk 0 12 hHeld ?_
 simp only [sA, sB, sC]
 refine tk2 1 13 (v := ?_) ?_ hHeld ?_
 rotate_left
 ·intro w hSw
  have x1 := qA (i := 0) hSw.1 rfl
  go_simp
  try with_reducible rfl
 simp only [sA, sB, sC]
 refine tk 2 14 hHeld ?_
 simp only [sA, sB, sC]
 refine tk 3 15 hHeld ?_
 simp only [sA, sB, sC]
 refine tk2 4 16 (v := ?_) ?_ hHeld ?_
 rotate_left
 ·intro w hSw
  have y0 := qA (i := 0) hSw.2 rfl
  have y1 := qA (i := 1) hSw.2 rfl
  go_simp
  try with_reducible rfl
 simp only [sA, sB, sC]
 refine qAy 5 17 (v := .int .i64 (A - base)) rfl rfl (by kernel_rfl) (by kernel_rfl) (by kernel_rfl) (fun _ _ _ h => h) rfl ?_ hHeld ?_
 ·intro w hSw
  go_simp
  try (have := HAH.out; rw [IntKind.wrap_i64]; first | omega | (congr 2; omega))
 simp only [sA, sB, sC]
 refine tk2 6 18 (v := ?_) ?_ hHeld ?_
 rotate_left
 ·intro w hSw
  have x1 := qA (i := 0) hSw.1 rfl
  go_simp
  try with_reducible rfl
 simp only [sA, sB, sC]
 refine tk 7 19 hHeld ?_
 simp only [sA, sB, sC]
 refine tk 8 20 hHeld ?_
 simp only [sA, sB, sC]
 refine tk2 9 21 (v := ?_) ?_ hHeld ?_
 rotate_left
 ·intro w hSw
  have y0 := qA (i := 0) hSw.2 rfl
  have y1 := qA (i := 1) hSw.2 rfl
  go_simp
  try with_reducible rfl
 simp only [sA, sB, sC]
 refine tk 10 22 hHeld ?_
 simp only [sA, sB, sC]
 refine qAy 11 23 (v := .int .i64 (z : Int)) rfl rfl (by kernel_rfl) (by kernel_rfl) (by kernel_rfl) (fun _ _ _ h => h) rfl ?_ hHeld ?_
 ·intro w hSw
  go_simp
  try (have := HAH.out; rw [IntKind.wrap_i64]; first | omega | (congr 2; omega))
 simp only [sA, sB, sC]
 refine wr1 12 fun K hK => ?_
 go_simp
 try simp only [hmk]
 generalize hWn : World.alloc V0 _ = V1
 have hbl1 : Below V0.heap.size V0 V1 := by rw [<- hWn]; exact qE _ _
 have HP2 := Lib.hid (HP1.out.go hbl1)
 have HK2 := Lib.hid (HK1.out.trans (qi.of hbl1))
 have HOB2 := Lib.hid ((hbl1.block _ (Array.getElem?_eq_some_iff.1 HOB1.out).1).trans HOB1.out)
 have HZB : Hid (qg V1 (.slice (some ⟨V0.heap.size, 0, none⟩) z z) (List.replicate z 0)) := by unfold Hid; rw [<- hWn]; exact qGR V0 z (by unfold maxLen; omega)
 have hH2 : V1.heap[c1]? = some (.cells #[.pointer (some ⟨w1.heap.size, 0, none⟩)] 93 (0, 0)) /\ V1.heap[w1.heap.size]? = some (.cells #[.int .i64 base, .slice ba b.length bc, sv] 34 (0, 0)) := ⟨HP2.out.q1, HP2.out.lo.box⟩
 generalize V0.heap.size = nb at *
 refine hK.out _ _ hH2 (fun hHeld => ?_)
 clear hK K hWn HP1 HK1 HOB1 hbl1 hH2 hmk
 refine tk 13 7 hHeld ?_
 simp only [sA, sB, sC]
 refine wpAnyH_done (by kernel_rfl) ?_ _
 refine NoPanic.normal ?_
 clear hHeld
 go_wp2_with fail
 have hS2 : V1.heap[c1]? = some (.cells #[.pointer (some ⟨w1.heap.size, 0, none⟩)] 93 (0, 0)) /\ V1.heap[W.heap.size]? = some (.cells #[.slice q1 o.code.length q2, .slice q4 o.syms.length q5, .slice q7 o.rels.length q8] 49 (0, 0)) := ⟨HP2.out.q1, HOB2.out⟩
 refine wp_region_noPanic ?_
 refine wp_region_held_drew (S := fun X => X.heap[c1]? = some (.cells #[.pointer (some ⟨w1.heap.size, 0, none⟩)] 93 (0, 0)) /\ X.heap[W.heap.size]? = some (.cells #[.slice q1 o.code.length q2, .slice q4 o.syms.length q5, .slice q7 o.rels.length q8] 49 (0, 0))) (by kernel_rfl) hS2 (fun hHeld => ?_)
 obtain ⟨V2, hV2⟩ : ∃ X, X = V1.drew := ⟨_, rfl⟩
 have hbV : Below V1.heap.size V1 V2 := by rw [hV2]; exact (Below.refl _ _).drew
 have HP3 := Lib.hid (HP2.out.go hbV)
 have HK3 := Lib.hid (HK2.out.trans (qi.of hbV))
 have HZ3 := Lib.hid (HZB.out.below hbV (Nat.le_refl _))
 rw [<- hV2] at hHeld ⊢
 clear hV2 hbV HP2 HK2 HOB2 HZB hS2
 refine tk2 0 25 (v := ?_) ?_ hHeld ?_
 rotate_left
 ·intro w hSw
  have x1 := qA (i := 0) hSw.1 rfl
  go_simp
  try with_reducible rfl
 simp only [sA, sB, sC]
 refine tk2 1 26 (v := ?_) ?_ hHeld ?_
 rotate_left
 ·intro w hSw
  have x1 := qA (i := 0) hSw.1 rfl
  go_simp
  try with_reducible rfl
 simp only [sA, sB, sC]
 refine tk 2 27 hHeld ?_
 simp only [sA, sB, sC]
 refine tk 3 28 hHeld ?_
 simp only [sA, sB, sC]
 refine tk 5 30 hHeld ?_
 simp only [sA, sB, sC]
 refine tk 7 32 hHeld ?_
 simp only [sA, sB, sC]
 refine tk2 8 33 (v := ?_) ?_ hHeld ?_
 rotate_left
 ·intro w hSw
  have y0 := qA (i := 0) hSw.2 rfl
  go_simp
  try with_reducible rfl
 simp only [sA, sB, sC]
 refine wr1 4 fun K hK => ?_
 have xl := HP3.out.lo.cells.2.1
 go_simp
 refine hK.out _ _ hHeld (fun hHeld => ?_)
 clear hK K xl
 refine wr1 6 fun K hK => ?_
 obtain ⟨v3, W3, happ, ho3, hg3⟩ := HP3.out.appB HZ3.out (by simp; omega)
 obtain ⟨ad3, cap3, hsh⟩ := qG ho3.1
 obtain ⟨n3, hn3'⟩ : ∃ n, n = (b ++ List.replicate z (0 : UInt8)).length := ⟨_, rfl⟩
 have hl3 : (b ++ List.replicate z (0 : UInt8)).length = b.length + z := by simp
 rw [<- hn3'] at hsh
 subst hsh
 have HA := Lib.hid happ
 have hH3 := hHeld
 rw [<- HP3.out.lo.by'.box hg3 hHeld.1 (by decide), <- HP3.out.lo.by'.box hg3 hHeld.2 (by decide)] at hH3
 have HO3 := Lib.hid ho3
 have HG3 := Lib.hid hg3
 have HL3 := Lib.hid hl3
 clear happ ho3 hg3 hn3' hl3
 refine qAE (by rfl) 31 (by rfl) _ _ _ _ (by rfl) _ _ (by rfl) (by rfl) HA.out ?_
 simp only [sA, sB, sC]
 refine hK.out _ _ ⟨HP3.out.lo.by'.box HG3.out hHeld.1 (by decide), HP3.out.lo.by'.box HG3.out hHeld.2 (by decide)⟩ (fun hHeld => ?_)
 clear hK K HA hH3
 refine wr1 9 fun K hK => ?_
 have hbel3 := HP3.out.lo.by'.grown HP3.out.lo.bel HG3.out (by omega)
 obtain ⟨v4, W4, happ, ho4, hg4⟩ := qBP HO3.out (HIN.out.1.below hbel3 (Nat.le_refl _)) (by rw [HL3.out]; omega)
 obtain ⟨ad4, cap4, hsh⟩ := qG ho4.1
 obtain ⟨n4, hn4'⟩ : ∃ n, n = (b ++ List.replicate z (0 : UInt8) ++ o.code).length := ⟨_, rfl⟩
 rw [<- hn4'] at hsh
 subst hsh
 have HA := Lib.hid happ
 have hT := HP3.out.told2 HG3.out HO3.out hg4 ho4
 have HK4 := Lib.hid (HK3.out.trans hT.1)
 have HP4 := Lib.hid hT.2.1
 have p1 := hT.2.2.1
 have p2 := hT.2.2.2
 have hHp := And.intro (HO3.out.box hg4 hHeld.1 (by decide)) (HO3.out.box hg4 hHeld.2 (by decide))
 clear happ hT hbel3 ho4 hg4 hn4'
 refine qAE (by rfl) 34 (by rfl) _ _ _ _ (by rfl) _ _ (by rfl) (by rfl) HA.out ?_
 simp only [sA, sB, sC]
 refine hK.out _ _ hHp (fun hHeld => ?_)
 clear hK K HA hHp
 refine tk 10 35 hHeld ?_
 simp only [sA, sB, sC]
 refine tk 11 36 hHeld ?_
 simp only [sA, sB, sC]
 refine wr1 12 fun K hK => ?_
 have hne1 : c1 ≠ w1.heap.size := by
  intro e
  have h1 := HP3.out.q1
  rw [e, HP3.out.lo.box] at h1
  cases h1
 have hne2 : W.heap.size ≠ w1.heap.size := by
  intro e
  have h1 := hHeld.2
  have h2 := HP4.out.lo.box
  rw [e] at h1
  rw [_root_.Go.heap_setCell_same _ _ 1 _ _ _ h1] at h2
  injection h2 with h2
  injection h2 with _ h2
  exact absurd h2 (by decide)
 have hob4 : (W4.setCell ⟨w1.heap.size, 1, none⟩ (.slice ad4 n4 cap4)).heap[W.heap.size]? = some (.cells #[.slice q1 o.code.length q2, .slice q4 o.syms.length q5, .slice q7 o.rels.length q8] 49 (0, 0)) := by rw [Below.heap_setCell _ _ _ _ hne2]; exact hHeld.2
 go_simp
 refine hK.out _ _ ⟨by rw [Below.heap_setCell _ _ _ _ hne1]; exact hHeld.1, hob4⟩ (fun _ => ?_)
 clear hK K p1 p2 hHeld HP3 HK3 HZ3 HO3 HG3
 refine wpAnyH_done (by kernel_rfl) ?_ _
 refine NoPanic.normal ?_
 have g1 := qB (i := 1) hob4 rfl
 obtain ⟨X, hX⟩ : ∃ X, X = W4.setCell ⟨w1.heap.size, 1, none⟩ (.slice ad4 n4 cap4) := ⟨_, rfl⟩
 rw [<- hX] at HP4 HK4 g1 ⊢
 clear hX hob4 hne1 hne2
 go_wp2_with fail
 go_loopw [40] (fun i X => ∃ (j : Nat) (s' : List Sy) (sv' : Value) (D' : DataW Unit), j <= o.syms.length /\ i = .int .i64 j /\ Hid (s'.length = s.length + j) /\ Hid (qi W X) /\ Hid (LP w1 X base (b ++ List.replicate z 0 ++ o.code) s' (.slice ad4 n4 cap4) sv' mb c1 c2 D') /\ Hid (qAt A s o.syms = qAt A s' (o.syms.drop j))) (fun i _ => o.syms.length - (intOf i).toNat)
 case atStart => exact ⟨0, s, sv, D, Nat.zero_le _, rfl, rfl, HK4, HP4, rfl⟩
 case round =>
  obtain ⟨j, s', sv', D', hj, rfl, HSL, HK, HP, HAS⟩ := hrel
  clear HK4 HP4 g1
  by_cases hjl : j < o.syms.length
  ·have hj1 : (j : Int) < o.syms.length := by omega
   obtain ⟨ad2, cap2, e2, _, hsc⟩ := HIN.out.2.1
   cases e2
   obtain ⟨sb, so, hq4, hsb, hscell⟩ := hsc (by omega)
   subst hq4
   obtain ⟨y0, y1⟩ := hscell j hjl
   rw [<- HP.out.lo.bel.cell (by exact hsb)] at y0 y1
   have hsbw : sb < wr.heap.size := Nat.lt_of_lt_of_le hsb HP.out.lo.bel.size
   have HAT := Lib.hid (HAS.out.trans (qIf hjl))
   obtain ⟨hx0, hx1⟩ := HSY.out o.syms[j] (List.getElem_mem hjl)
   have hxl := HNL.out o.syms[j] (List.getElem_mem hjl)
   clear hscell hsc HAS
   generalize o.syms[j] = x at *
   have hkey : keyOf Tryz.prog 9 (.string ⟨x.name.toArray⟩) = some (.string x.name) := Go.WideMaps.keyOf_string_mk Tryz.underlying9 (s := ⟨x.name.toArray⟩) (by simpa [ByteArray.size] using hxl)
   obtain ⟨sa, scp, hsv⟩ := qG HP.out.lo.sy
   subst hsv
   have HOWN := Lib.hid (show ∀ j0, (Value.slice sa s'.length scp).ownBlock = some j0 -> j0 < wr.heap.size from fun j0 h => (HP.out.lo.sy.lt j0 h).2)
   have hhas := HP.out.pm.has x.name
   have HPA := Lib.hid (HP.out.go (qE wr (.cells #[.string ⟨x.name.toArray⟩, .int .i64 x.pos] 81)))
   have HKA := Lib.hid (HK.out.trans (qi.of (qE wr (.cells #[.string ⟨x.name.toArray⟩, .int .i64 x.pos] 81))))
   have HBX := Lib.hid (qK wr #[.string ⟨x.name.toArray⟩, .int .i64 x.pos] 81)
   have m2 := qB (i := 0) HPA.out.q2 rfl
   have hzc2 : c2 < wr.heap.size := (Array.getElem?_eq_some_iff.1 HP.out.q2).1
   have m2' := qB (i := 0) HP.out.q2 rfl
   clear hxl HP HK
   by_cases hwh : 0 <= qk x.name s'
   ·have HX : Hid (qAt A s o.syms = none) := by unfold Hid; rw [HAT.out, if_pos hwh]
    rw [decide_eq_true hwh] at hhas
    clear HAT
    go_wp2_with (first | (at_lookup; refine wpList_lookup_own_ok_int _ rfl _ _ 89 rfl 9 3 .i64 lawS Tryz.underlying89 Tryz.underlying3 (qE9 _) mb s'.length D' rfl HPA.out.mp _ _ rfl hkey ?_; intro c _ _; rw [hhas]) | fail)
    go_ret
    exact ⟨HKA.out, HPA.out.lo.bel, 7, rfl, .inl ⟨rfl, HX.out⟩⟩
   ·have HAT2 := Lib.hid (HAT.out.trans (if_neg hwh))
    have hsl2 : s'.length <= 3000 := by have := HSL.out; omega
    have hpm := HPA.out.pm.snoc (x := ⟨x.name, A + x.pos⟩) (by show qk x.name s' < 0; omega) (by show 0 <= A + x.pos; omega)
    have hwf : (Lit.int .i64 (A + x.pos)).wf = true := by simp [Lit.wf, IntKind.min, IntKind.max, IntKind.bits, IntKind.signed]; omega
    have HPM := Lib.hid hpm
    rw [decide_eq_false hwh] at hhas
    clear HAT hpm
    go_wp2_with (first | (at_lookup; refine wpList_lookup_own_ok_int _ rfl _ _ 89 rfl 9 3 .i64 lawS Tryz.underlying89 Tryz.underlying3 (qE9 _) mb s'.length D' rfl HPA.out.mp _ _ rfl hkey ?_; intro c _ _; rw [hhas]) | (at_mapUpdate; refine wpList_mapUpdate_own _ rfl _ _ _ 89 rfl 9 3 lawS Tryz.underlying89 (plainElem Tryz.prog 3) mb s'.length D' rfl HPA.out.mp (by unfold maxLen; omega) _ _ _ rfl rfl hkey _ [] (plainElem_int Tryz.underlying3 hwf) ?_; intro w5 hown5 hgrow5) | fail)
    obtain ⟨hlo5, hk5⟩ := HPA.out.mapped hgrow5
    have HO5 := Lib.hid hlo5
    have HK5 := Lib.hid (HKA.out.trans hk5)
    have HM5 := Lib.hid hown5
    have HQ5 := Lib.hid (HPA.out.keep hk5)
    have HBX5 : Hid (w5.heap[wr.heap.size]? = some (.cells #[.string ⟨x.name.toArray⟩, .int .i64 x.pos] 81 (0, 0))) := by
     unfold Hid
     rw [hgrow5.block _ (by simp) ?_]
     ·exact HBX.out
     ·intro e
      injection e with e
      obtain ⟨es, clock, hmb, _⟩ := HPA.out.mp
      rw [<- e, HBX.out] at hmb
      cases hmb
    have HNE := Lib.hid HPA.out.ne
    clear hlo5 hk5 hown5 hgrow5 HPA HKA HBX
    have hS5 : w5.heap[c1]? = some (.cells #[.pointer (some ⟨w1.heap.size, 0, none⟩)] 93 (0, 0)) /\ w5.heap[wr.heap.size]? = some (.cells #[.string ⟨x.name.toArray⟩, .int .i64 x.pos] 81 (0, 0)) := ⟨HQ5.out.1, HBX5.out⟩
    refine wp_region_noPanic ?_
    refine wp_region_held_drew (S := fun X => X.heap[c1]? = some (.cells #[.pointer (some ⟨w1.heap.size, 0, none⟩)] 93 (0, 0)) /\ X.heap[wr.heap.size]? = some (.cells #[.string ⟨x.name.toArray⟩, .int .i64 x.pos] 81 (0, 0))) (by kernel_rfl) hS5 (fun hHeld => ?_)
    obtain ⟨V0, hV0⟩ : ∃ X, X = w5.drew := ⟨_, rfl⟩
    have hbV : Below w5.heap.size w5 V0 := by rw [hV0]; exact (Below.refl _ _).drew
    have HLa := Lib.hid (HO5.out.go hbV)
    have HKa := Lib.hid (HK5.out.trans (qi.of hbV))
    have HMa := Lib.hid (HM5.out.kept (ogbelow none hbV (Nat.le_refl _)) (by simp))
    have hc1z : c1 < V0.heap.size := by have := (Array.getElem?_eq_some_iff.1 HQ5.out.1).1; have := hbV.size; omega
    have hwz : wr.heap.size < V0.heap.size := by have := (Array.getElem?_eq_some_iff.1 HBX5.out).1; have := hbV.size; omega
    have HQa := Lib.hid (And.intro ((hbV.block _ (Array.getElem?_eq_some_iff.1 HQ5.out.1).1).trans HQ5.out.1) ((hbV.block _ (Array.getElem?_eq_some_iff.1 HQ5.out.2).1).trans HQ5.out.2))
    rw [<- hV0] at hHeld ⊢
    clear hV0 hbV HO5 HK5 HM5 hS5 HBX5 HQ5
    refine tk2 0 59 (v := ?_) ?_ hHeld ?_
    rotate_left
    ·intro w hSw
     have x1 := qA (i := 0) hSw.1 rfl
     go_simp
     try with_reducible rfl
    simp only [sA, sB, sC]
    refine tk2 1 60 (v := ?_) ?_ hHeld ?_
    rotate_left
    ·intro w hSw
     have x1 := qA (i := 0) hSw.1 rfl
     go_simp
     try with_reducible rfl
    simp only [sA, sB, sC]
    refine tk 2 61 hHeld ?_
    simp only [sA, sB, sC]
    refine tk 3 62 hHeld ?_
    simp only [sA, sB, sC]
    refine tk 5 64 hHeld ?_
    simp only [sA, sB, sC]
    refine tk2 6 65 (v := ?_) ?_ hHeld ?_
    rotate_left
    ·intro w hSw
     have y0 := qA (i := 0) hSw.2 rfl
     have y1 := qA (i := 1) hSw.2 rfl
     go_simp
     try with_reducible rfl
    simp only [sA, sB, sC]
    refine tk 7 66 hHeld ?_
    simp only [sA, sB, sC]
    refine tk 8 67 hHeld ?_
    simp only [sA, sB, sC]
    refine tk2 9 68 (v := ?_) ?_ hHeld ?_
    rotate_left
    ·intro w hSw
     have y0 := qA (i := 0) hSw.2 rfl
     have y1 := qA (i := 1) hSw.2 rfl
     go_simp
     try with_reducible rfl
    simp only [sA, sB, sC]
    refine qAy 10 69 (v := .int .i64 (A + x.pos)) rfl rfl (by kernel_rfl) (by kernel_rfl) (by kernel_rfl) (fun _ _ _ h => h) rfl ?_ hHeld ?_
    ·intro w hSw
     go_simp
     try (rw [IntKind.wrap_i64]; first | omega | (congr 2; omega))
    simp only [sA, sB, sC]
    refine tk 11 70 hHeld ?_
    simp only [sA, sB, sC]
    refine wpAnyH_ready (rs := [4, 12]) (by kernel_rfl) (by simp) ?_
    refine AllReadyH.cons rfl (fun K hK => ?_) (AllReadyH.cons rfl (fun K hK => ?_) AllReadyH.nil)
    ·have xl := HLa.out.cells.2.2.1
     go_simp
     refine hK.out _ _ hHeld (fun hHeld => ?_)
     clear hK K xl
     refine wr1 12 fun K hK => ?_
     go_simp
     generalize hWn : World.alloc V0 _ = V1
     have hsz1 : V0.heap.size < V1.heap.size := by rw [<- hWn]; simp
     have hbl1 : Below V0.heap.size V0 V1 := by rw [<- hWn]; exact qE _ _
     have HLb := Lib.hid (HLa.out.go hbl1)
     have HKb := Lib.hid (HKa.out.trans (qi.of hbl1))
     have HMb := Lib.hid (HMa.out.kept (ogbelow none hbl1 (Nat.le_refl _)) (by simp))
     have HQb := Lib.hid (And.intro ((hbl1.block _ (Array.getElem?_eq_some_iff.1 HQa.out.1).1).trans HQa.out.1) ((hbl1.block _ (Array.getElem?_eq_some_iff.1 HQa.out.2).1).trans HQa.out.2))
     have HBN : Hid (V1.heap[V0.heap.size]? = some (.cells #[.string ⟨x.name.toArray⟩, .int .i64 (A + x.pos)] 81 (0, 0))) := by unfold Hid; rw [<- hWn]; exact qK V0 _ _
     have hH1 := hHeld
     rw [<- hbl1.block _ hc1z, <- hbl1.block _ hwz] at hH1
     refine hK.out _ _ hH1 (fun hHeld => ?_)
     clear hK K hWn hbl1 hH1 HLa HKa HMa HQa
     refine wr1 13 fun K hK => ?_
     obtain ⟨v3, W3, happ, p1, p2, hg3, hk3, p5⟩ := HLb.out.appT ⟨x.name, A + x.pos⟩ V0.heap.size HBN.out (by omega)
     obtain ⟨ad3, cap3, hsh⟩ := qG p5.sy
     obtain ⟨n3, hn3'⟩ : ∃ n, n = (s' ++ [(⟨x.name, A + x.pos⟩ : Sy)]).length := ⟨_, rfl⟩
     rw [<- hn3'] at hsh
     subst hsh
     have HA := Lib.hid happ
     have hoc1 : some c1 ≠ (Value.slice sa s'.length scp).ownBlock := by
      rcases HLb.out.sy.2 with ⟨h, _⟩ | ⟨g', cap, cur, h, _, hgg, _⟩
      ·rw [h]; simp [Value.ownBlock]
      ·rw [h]
       intro e0
       simp only [Value.ownBlock, Option.some.injEq] at e0
       rw [<- e0, hHeld.1] at hgg
       cases hgg
     have hHp := And.intro ((hg3.block c1 (by omega) hoc1).trans hHeld.1) ((hg3.block wr.heap.size (by omega) (fun e => by have := HOWN.out _ e.symm; omega)).trans hHeld.2)
     have HM3 := Lib.hid ((HMb.out.kept hg3 (qDw HLb.out.sy HMb.out)).setCell (a := ⟨w1.heap.size, 2, none⟩) (by have := HNE.out; show mb ≠ w1.heap.size; omega) (.slice ad3 n3 cap3))
     have HQ3 := Lib.hid (And.intro (hk3.2 _ _ _ _ HQb.out.1 (by decide) (by decide) (by decide)) (hk3.2 _ _ _ _ HQb.out.2 (by decide) (by decide) (by decide)))
     have HK3 := Lib.hid (HKb.out.trans hk3)
     have HO3 := Lib.hid p5
     have hne1 : c1 ≠ w1.heap.size := by
      intro e
      have h1 := HQb.out.1
      rw [e, HLb.out.box] at h1
      cases h1
     have hne2 : wr.heap.size ≠ w1.heap.size := by
      intro e
      have h1 := hHeld.2
      rw [e, HLb.out.box] at h1
      cases h1
     clear happ hg3 hk3 p5 HBN HLb HKb HMb HQb hn3' hoc1
     refine qAE (by rfl) 72 (by rfl) _ _ _ _ (by rfl) _ _ (by rfl) (by rfl) HA.out ?_
     simp only [sA, sB, sC]
     refine hK.out _ _ hHp (fun hHeld => ?_)
     clear hK K HA hHp
     refine tk 14 73 hHeld ?_
     simp only [sA, sB, sC]
     refine tk 15 74 hHeld ?_
     simp only [sA, sB, sC]
     refine wr1 16 fun K hK => ?_
     go_simp
     refine hK.out _ _ ⟨by rw [Below.heap_setCell _ _ _ _ hne1]; exact hHeld.1, by rw [Below.heap_setCell _ _ _ _ hne2]; exact hHeld.2⟩ (fun _ => ?_)
     clear hK K p1 p2 hHeld
     refine wpAnyH_done (by kernel_rfl) ?_ _
     refine NoPanic.normal ?_
     have HPF : Hid (LP w1 (W3.setCell ⟨w1.heap.size, 2, none⟩ (.slice ad3 n3 cap3)) base (b ++ List.replicate z 0 ++ o.code) (s' ++ [⟨x.name, A + x.pos⟩]) (.slice ad4 n4 cap4) (.slice ad3 n3 cap3) mb c1 c2 (D'.put (.string x.name) (.lit (.int .i64 (A + x.pos))))) :=
      ⟨HO3.out, by rw [List.length_append]; exact HM3.out, HPM.out, HQ3.out.1, HQ3.out.2, HNE.out⟩
     have HAF : Hid (qAt A s o.syms = qAt A (s' ++ [⟨x.name, A + x.pos⟩]) (o.syms.drop (j + 1))) := by unfold Hid; rw [HAT2.out, Int.add_comm A x.pos]
     clear HO3 HM3 HPM HQ3
     go_wp2_with fail
     exact ⟨⟨j + 1, _, _, _, by omega, by go_num, by have := HSL.out; unfold Hid; simp; omega, HK3, HPF, HAF⟩, by simp [intOf]; omega⟩
    ·go_simp
     generalize hWn : World.alloc V0 _ = V1
     have hsz1 : V0.heap.size < V1.heap.size := by rw [<- hWn]; simp
     have hbl1 : Below V0.heap.size V0 V1 := by rw [<- hWn]; exact qE _ _
     have HLb := Lib.hid (HLa.out.go hbl1)
     have HKb := Lib.hid (HKa.out.trans (qi.of hbl1))
     have HMb := Lib.hid (HMa.out.kept (ogbelow none hbl1 (Nat.le_refl _)) (by simp))
     have HQb := Lib.hid (And.intro ((hbl1.block _ (Array.getElem?_eq_some_iff.1 HQa.out.1).1).trans HQa.out.1) ((hbl1.block _ (Array.getElem?_eq_some_iff.1 HQa.out.2).1).trans HQa.out.2))
     have HBN : Hid (V1.heap[V0.heap.size]? = some (.cells #[.string ⟨x.name.toArray⟩, .int .i64 (A + x.pos)] 81 (0, 0))) := by unfold Hid; rw [<- hWn]; exact qK V0 _ _
     have hH1 := hHeld
     rw [<- hbl1.block _ hc1z, <- hbl1.block _ hwz] at hH1
     refine hK.out _ _ hH1 (fun hHeld => ?_)
     clear hK K hWn hbl1 hH1 HLa HKa HMa HQa
     refine wr1 4 fun K hK => ?_
     have xl := HLb.out.cells.2.2.1
     go_simp
     refine hK.out _ _ hHeld (fun hHeld => ?_)
     clear hK K xl
     refine wr1 13 fun K hK => ?_
     obtain ⟨v3, W3, happ, p1, p2, hg3, hk3, p5⟩ := HLb.out.appT ⟨x.name, A + x.pos⟩ V0.heap.size HBN.out (by omega)
     obtain ⟨ad3, cap3, hsh⟩ := qG p5.sy
     obtain ⟨n3, hn3'⟩ : ∃ n, n = (s' ++ [(⟨x.name, A + x.pos⟩ : Sy)]).length := ⟨_, rfl⟩
     rw [<- hn3'] at hsh
     subst hsh
     have HA := Lib.hid happ
     have hoc1 : some c1 ≠ (Value.slice sa s'.length scp).ownBlock := by
      rcases HLb.out.sy.2 with ⟨h, _⟩ | ⟨g', cap, cur, h, _, hgg, _⟩
      ·rw [h]; simp [Value.ownBlock]
      ·rw [h]
       intro e0
       simp only [Value.ownBlock, Option.some.injEq] at e0
       rw [<- e0, hHeld.1] at hgg
       cases hgg
     have hHp := And.intro ((hg3.block c1 (by omega) hoc1).trans hHeld.1) ((hg3.block wr.heap.size (by omega) (fun e => by have := HOWN.out _ e.symm; omega)).trans hHeld.2)
     have HM3 := Lib.hid ((HMb.out.kept hg3 (qDw HLb.out.sy HMb.out)).setCell (a := ⟨w1.heap.size, 2, none⟩) (by have := HNE.out; show mb ≠ w1.heap.size; omega) (.slice ad3 n3 cap3))
     have HQ3 := Lib.hid (And.intro (hk3.2 _ _ _ _ HQb.out.1 (by decide) (by decide) (by decide)) (hk3.2 _ _ _ _ HQb.out.2 (by decide) (by decide) (by decide)))
     have HK3 := Lib.hid (HKb.out.trans hk3)
     have HO3 := Lib.hid p5
     have hne1 : c1 ≠ w1.heap.size := by
      intro e
      have h1 := HQb.out.1
      rw [e, HLb.out.box] at h1
      cases h1
     have hne2 : wr.heap.size ≠ w1.heap.size := by
      intro e
      have h1 := hHeld.2
      rw [e, HLb.out.box] at h1
      cases h1
     clear happ hg3 hk3 p5 HBN HLb HKb HMb HQb hn3' hoc1
     refine qAE (by rfl) 72 (by rfl) _ _ _ _ (by rfl) _ _ (by rfl) (by rfl) HA.out ?_
     simp only [sA, sB, sC]
     refine hK.out _ _ hHp (fun hHeld => ?_)
     clear hK K HA hHp
     refine tk 14 73 hHeld ?_
     simp only [sA, sB, sC]
     refine tk 15 74 hHeld ?_
     simp only [sA, sB, sC]
     refine wr1 16 fun K hK => ?_
     go_simp
     refine hK.out _ _ ⟨by rw [Below.heap_setCell _ _ _ _ hne1]; exact hHeld.1, by rw [Below.heap_setCell _ _ _ _ hne2]; exact hHeld.2⟩ (fun _ => ?_)
     clear hK K p1 p2 hHeld
     refine wpAnyH_done (by kernel_rfl) ?_ _
     refine NoPanic.normal ?_
     have HPF : Hid (LP w1 (W3.setCell ⟨w1.heap.size, 2, none⟩ (.slice ad3 n3 cap3)) base (b ++ List.replicate z 0 ++ o.code) (s' ++ [⟨x.name, A + x.pos⟩]) (.slice ad4 n4 cap4) (.slice ad3 n3 cap3) mb c1 c2 (D'.put (.string x.name) (.lit (.int .i64 (A + x.pos))))) :=
      ⟨HO3.out, by rw [List.length_append]; exact HM3.out, HPM.out, HQ3.out.1, HQ3.out.2, HNE.out⟩
     have HAF : Hid (qAt A s o.syms = qAt A (s' ++ [⟨x.name, A + x.pos⟩]) (o.syms.drop (j + 1))) := by unfold Hid; rw [HAT2.out, Int.add_comm A x.pos]
     clear HO3 HM3 HPM HQ3
     go_wp2_with fail
     exact ⟨⟨j + 1, _, _, _, by omega, by go_num, by have := HSL.out; unfold Hid; simp; omega, HK3, HPF, HAF⟩, by simp [intOf]; omega⟩
  ·have hj1 : ¬ (j : Int) < o.syms.length := by omega
   have HAE : Hid (qAt A s o.syms = some s') := by unfold Hid; rw [HAS.out, List.drop_eq_nil_of_le (by omega)]; rfl
   have hlen : s'.length = s.length + o.syms.length := by have := HSL.out; omega
   go_wp2_with fail
   go_ret
   exact ⟨HK.out, HP.out.lo.bel, 0, rfl, .inr ⟨rfl, s', _, _, D', hlen, HAE.out, HP.out⟩⟩
end Go.Proofs.YtgjmbjahgcndnaaGreatDoor.Li
