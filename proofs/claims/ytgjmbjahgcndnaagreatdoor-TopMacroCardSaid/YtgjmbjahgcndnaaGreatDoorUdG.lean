import Derived.Test.YtgjmbjahgcndnaaGreatDoorPut37
set_option maxHeartbeats 4000000
set_option maxRecDepth 100000
namespace Go.Proofs.YtgjmbjahgcndnaaGreatDoor
open Go.RowKit
def BytesOf (x : SU) (w : World) (its : List It) (l : List (It × Value × Value)) : Prop := ∀ k (h : k < l.length) rs rs' b, rs.length <= 100000 -> qDx ⟨x.labs, its, x.firsts⟩ x.ps (x.ps.getD k 0) (x.ps.getD (k + 1) 0 - x.ps.getD k 0) rs l[k].1 = .ok (b, rs') ->
 ∃ f caps, l[k].2.2 = .func (.func f) #[] caps /\ (∀ args w, (callFunc f args).run Tryz.prog w = .ok (.enter f args) w) /\ ∀ W rv, WS x w W rv rs -> Calls Tryz.prog f (#[.int .i64 (x.ps.getD k 0), .int .i64 (x.ps.getD (k + 1) 0 - x.ps.getD k 0)] ++ caps) W fun r W' => ∃ ca cl cc rv', r = .returned (.tuple #[.slice ca cl cc, .int .i64 0]) /\ qg W' (.slice ca cl cc) b /\ WS x w W' rv' rs' /\ Ch x.gu rv.ownBlock W W'
theorem qER {u : Un} {ps : List Int} {k : Nat} {code code' : List UInt8} {rs rs' : List Re} {its : List It} (hk : k < its.length) (h : qBT u ps k code rs (its.drop k) = .ok (code', rs')) :
  (ps.getD k 0).tmod its[k].align = 0 /\ ∃ b r2, qDx u ps (ps.getD k 0) (ps.getD (k + 1) 0 - ps.getD k 0) rs its[k] = .ok (b, r2) /\ qBT u ps (k + 1) (code ++ b) r2 (its.drop (k + 1)) = .ok (code', rs') := by
 rw [List.drop_eq_getElem_cons hk, qBT] at h
 split at h
 ·exact absurd h (by simp)
 ·next h0 =>
  refine ⟨by simpa using h0, ?_⟩
  split at h
  ·exact absurd h (by simp)
  ·next b r2 hb => exact ⟨b, r2, hb, h⟩
theorem qDK (u : Un) (ps : List Int) : ∀ (its : List It) (k : Nat) (code code' : List UInt8) (rs rs' : List Re), qBT u ps k code rs its = .ok (code', rs') -> code.length <= code'.length /\ rs.length <= rs'.length
 | [], k, code, code', rs, rs', h => by
   unfold qBT at h
   injection h with h
   obtain ⟨rfl, rfl⟩ := Prod.mk.inj h
   exact ⟨Nat.le_refl _, Nat.le_refl _⟩
 | i :: r, k, code, code', rs, rs', h => by
   obtain ⟨_, b, r2, hb, h2⟩ := qER (its := List.replicate k i ++ i :: r) (k := k) (by simp) (by simpa using h)
   have h3 : (List.replicate k i ++ i :: r).drop (k + 1) = r := by
    rw [List.drop_append]
    simp
   rw [h3] at h2
   have ih := qDK u ps r (k + 1) _ _ _ _ h2
   have hr : rs.length <= r2.length := by
    unfold qDx at hb
    split at hb
    ·injection hb with hb; obtain ⟨_, rfl⟩ := Prod.mk.inj hb; exact Nat.le_refl _
    ·split at hb
     ·injection hb with hb; obtain ⟨_, rfl⟩ := Prod.mk.inj hb; exact Nat.le_refl _
     ·split at hb <;> (injection hb with hb; obtain ⟨_, rfl⟩ := Prod.mk.inj hb; simp)
    ·next op n m imm _ =>
     cases he : encU op n m imm with
     | error e => rw [he] at hb; exact absurd hb (by simp [Except.map])
     | ok b' => rw [he] at hb; simp only [Except.map] at hb; injection hb with hb; obtain ⟨_, rfl⟩ := Prod.mk.inj hb; exact Nat.le_refl _
    ·next op n m imm q _ =>
     split at hb
     ·exact absurd hb (by simp)
     ·next pl _ =>
      split at hb
      ·cases he : longB op (ps.getD k 0) pl with
       | error e => rw [he] at hb; exact absurd hb (by simp [Except.map])
       | ok b' => rw [he] at hb; simp only [Except.map] at hb; injection hb with hb; obtain ⟨_, rfl⟩ := Prod.mk.inj hb; exact Nat.le_refl _
      ·split at hb
       ·exact absurd hb (by simp)
       ·next d _ =>
        cases he : encU op n m d with
        | error e => rw [he] at hb; exact absurd hb (by simp [Except.map])
        | ok b' => rw [he] at hb; simp only [Except.map] at hb; injection hb with hb; obtain ⟨_, rfl⟩ := Prod.mk.inj hb; exact Nat.le_refl _
   simp only [List.length_append] at ih
   omega
theorem row_ch {W W' : World} {g base n size base' n' size' : Nat} {e e' : TypeId} {v v' : Value} {xs xs' : List Value} {c : Array Value} {t : TypeId} (h : W.ownsRow base e size v n xs) (hc : Ch g v'.ownBlock W W') (hg : W.heap[g]? = some (.cells c t (0, 0))) (ht : t ≠ e) (ho : W.ownsRow base' e' size' v' n' xs') (he : e ≠ e') : W'.ownsRow base e size v n xs := by
 refine ⟨h.1, ?_⟩
 rcases h.2 with h5 | ⟨q, cap, cur, h5, h6, h7, h8⟩
 ·exact .inl h5
 ·refine .inr ⟨q, cap, cur, h5, h6, ?_, h8⟩
  rw [hc.block q (qC h7) (by
   rintro rfl
   have := hg.symm.trans h7
   injection this with this
   injection this with _ e2
   exact ht e2) (qAY ho h7 he)]
  exact h7
theorem qDX {W W' : World} {g q base' n' size' : Nat} {e' : TypeId} {v' : Value} {xs' : List Value} {c c' : Array Value} {t t' : TypeId} (hq : W.heap[q]? = some (.cells c' t' (0, 0))) (hc : Ch g v'.ownBlock W W') (hg : W.heap[g]? = some (.cells c t (0, 0))) (ht : t ≠ t') (ho : W.ownsRow base' e' size' v' n' xs') (he : t' ≠ e') : W'.heap[q]? = some (.cells c' t' (0, 0)) := by
 rw [hc.block q (qC hq) (by
  rintro rfl
  have := hg.symm.trans hq
  injection this with this
  injection this with _ e2
  exact ht e2) (qAY ho hq he)]
 exact hq
def Sy.cells (s : Sy) : List Value := [.string ⟨s.name.toArray⟩, .int .i64 s.pos]
def qT (l : List Sy) : List Value := l.flatMap Sy.cells
theorem qJn : (Tryz.prog.info? 81).map (fun i => (i.zero, i.size, i.bytes)) = some (some (.agg #[.string ⟨#[]⟩, .int .i64 0]), 2, 24) := by kernel_rfl
theorem WS.grown {x : SU} {w W W' : World} {rv : Value} {rs : List Re} {o : Option Nat} (h : WS x w W rv rs) (hg : W.grownBy W' o) (ho : ∀ q, o = some q -> w.heap.size <= q) (hr : rv.ownBlock = none \/ rv.ownBlock ≠ o) : WS x w W' rv rs := by
 have hlt := h.lt
 refine ⟨h.st, ⟨hg.os.trans h.fr.os, hg.tape.trans h.fr.tape, hg.output.trans h.fr.output, Nat.le_trans h.fr.size hg.size, fun i hi hne => ?_⟩, h.ub, ?_, h.rel.kept hg hr⟩
 ·rw [hg.block i (Nat.lt_of_lt_of_le hi h.fr.size) (fun e => by have := ho i e.symm; omega)]
  exact h.fr.block i hi hne
 ·rw [hg.block _ (qC h.box) (fun e => by have := ho _ e.symm; omega)]
  exact h.box
theorem WS.set {x : SU} {w W : World} {rv : Value} {rs : List Re} {q i : Nat} {c : Array Value} {t : TypeId} (h : WS x w W rv rs) (hq : W.heap[q]? = some (.cells c t (0, 0))) (ht : t ≠ 120) (hw : w.heap.size <= q) (v : Value) : WS x w (W.setCell ⟨q, i, none⟩ v) rv rs :=
 h.grown (gset W q i v) (fun p e => by cases e; exact hw) (.inr (fun e => qAY h.rel hq ht e.symm))
structure PK (x : SU) (w W : World) (rv : Value) (ra : List Re) (cv : Value) (cd : List UInt8) (sv : Value) (sy : List Sy) : Prop where
 ws : WS x w W rv ra
 r0 : W.heap[w.heap.size]? = some (.cells #[.slice none 0 0, .slice none 0 0, .slice none 0 0] 49 (0, 0))
 r1 : W.heap[w.heap.size + 1]? = some (.cells #[.int .i64 0, .int .i64 0] 36 (0, 0))
 ob : W.heap[w.heap.size + 1 + 1]? = some (.cells #[cv, sv, .slice none 0 0] 49 (0, 0))
 out : Out W (w.heap.size + 3) cv cd
 sy : W.ownsRow (w.heap.size + 3) 81 2 sv sy.length (qT sy)
theorem PK.go {x : SU} {w W W' : World} {rv cv sv : Value} {ra : List Re} {cd : List UInt8} {sy : List Sy} (h : PK x w W rv ra cv cd sv sy) (hb : Below W.heap.size W W') : PK x w W' rv ra cv cd sv sy :=
 ⟨h.ws.go hb, (hb.block _ (qC h.r0)).trans h.r0, (hb.block _ (qC h.r1)).trans h.r1, (hb.block _ (qC h.ob)).trans h.ob, h.out.below hb (Nat.le_refl _), Sc.qd h.sy hb (Nat.le_refl _)⟩
theorem PK.app {x : SU} {w W : World} {rv cv sv : Value} {ra : List Re} {cd : List UInt8} {sy : List Sy} (h : PK x w W rv ra cv cd sv sy) (s : Sy) (g : Nat) (hg : W.heap[g]? = some (.cells #[.string ⟨s.name.toArray⟩, .int .i64 s.pos] 81 (0, 0))) (hn : sy.length <= 100000) :
  ∃ sa sc W3, (∀ ty, (Builtin.append_ #[32, 32] ty #[sv, .slice (some ⟨g, 0, none⟩) 1 1]).run Tryz.prog W = .ok (.slice sa (sy.length + 1) sc) W3) /\ WS x w W3 rv ra /\ (W3.cell? ⟨w.heap.size + 1 + 1, 1, none⟩ = some sv /\ W3.frozen? ⟨w.heap.size + 1 + 1, 1, none⟩ = false /\ w.heap.size + 1 + 1 < W3.heap.size) /\ PK x w (W3.setCell ⟨w.heap.size + 1 + 1, 1, none⟩ (.slice sa (sy.length + 1) sc)) rv ra cv cd (.slice sa (sy.length + 1) sc) (sy ++ [s]) := by
 have hz : w.heap.size + 3 <= W.heap.size := h.out.2
 obtain ⟨v', W3, happ, hr', hgr⟩ := app1 32 81 _ 2 24 Tryz.underlying32 qJn rfl (by decide) (by decide) h.sy hz [.string ⟨s.name.toArray⟩, .int .i64 s.pos] rfl g hg (by intro u hu; simp at hu; rcases hu with rfl | rfl <;> rfl) (by omega)
 obtain ⟨sa, sc, rfl⟩ := qG hr'
 have keep : ∀ {q : Nat} {c : Array Value} {t : TypeId}, W.heap[q]? = some (.cells c t (0, 0)) -> t ≠ 81 -> W3.heap[q]? = some (.cells c t (0, 0)) := fun {q c t} hq ht => (hgr.block q (qC hq) (qAY h.sy hq ht)).trans hq
 have hw3 := h.ws.grown hgr (fun j hj => by have := (h.sy.lt j hj).1; omega) (qBD h.sy h.ws.rel (by decide))
 have hob := keep h.ob (by decide)
 refine ⟨sa, sc, W3, happ, hw3, ⟨qB hob rfl, qD hob, qC hob⟩, hw3.set hob (by decide) (by omega) _, ?_, ?_, qJ hob, ⟨qAr (h.out.1.kept hgr (qBD h.sy h.out.1 (by decide))) (by omega), by have := hgr.size; have := h.out.2; simp; omega⟩, ?_⟩
 ·rw [Below.heap_setCell _ _ _ _ (by show w.heap.size ≠ w.heap.size + 1 + 1; omega)]; exact keep h.r0 (by decide)
 ·rw [Below.heap_setCell _ _ _ _ (by show w.heap.size + 1 ≠ w.heap.size + 1 + 1; omega)]; exact keep h.r1 (by decide)
 ·have e1 : qT (sy ++ [s]) = qT sy ++ [.string ⟨s.name.toArray⟩, .int .i64 s.pos] := by simp [qT, Sy.cells]
  rw [e1, List.length_append]
  exact qAr hr' (by omega)
theorem qBE : ∀ (l : List Sy) (i : Nat) (h : i < l.length), (qT l)[i * 2]? = some (.string ⟨l[i].name.toArray⟩) /\ (qT l)[i * 2 + 1]? = some (.int .i64 l[i].pos)
 | x :: l, 0, _ => ⟨rfl, rfl⟩
 | x :: l, i + 1, h => by
   have ih := qBE l i (by simpa using h)
   have e : qT (x :: l) = .string ⟨x.name.toArray⟩ :: .int .i64 x.pos :: qT l := rfl
   rw [e, show (i + 1) * 2 = i * 2 + 1 + 1 by omega]
   exact ih
theorem qGB : ∀ (l : List Re) (i : Nat) (h : i < l.length), (rcells l)[i * 4]? = some (.int .i64 l[i].pos) /\ (rcells l)[i * 4 + 1]? = some (.int .i64 l[i].size) /\ (rcells l)[i * 4 + 2]? = some (.string ⟨l[i].name.toArray⟩) /\ (rcells l)[i * 4 + 3]? = some (.int .i64 l[i].add)
 | x :: l, 0, _ => ⟨rfl, rfl, rfl, rfl⟩
 | x :: l, i + 1, h => by
   have ih := qGB l i (by simpa using h)
   have e : rcells (x :: l) = .int .i64 x.pos :: .int .i64 x.size :: .string ⟨x.name.toArray⟩ :: .int .i64 x.add :: rcells l := rfl
   rw [e, show (i + 1) * 4 = i * 4 + 1 + 1 + 1 + 1 by omega]
   exact ih
theorem qEx {w : World} {base : Nat} {v : Value} {xs : List Sy} (h : w.ownsRow base 81 2 v xs.length (qT xs)) : qAw w v xs := by
 rcases h.2 with ⟨rfl, h0⟩ | ⟨g, cap, cur, rfl, _, hg, hnc, hcm, _, htake⟩
 ·exact ⟨none, 0, by rw [h0], by rw [h0]; simp, fun h1 => by omega⟩
 ·refine ⟨_, cap, rfl, ⟨by omega, hnc⟩, fun _ => ⟨g, 0, rfl, (Array.getElem?_eq_some_iff.1 hg).1, fun i hi => ?_⟩⟩
  have hc := h.cells (g := g) rfl
  have ha := qBE xs i hi
  have h1 := hc _ _ ha.1
  have h2 := hc _ _ ha.2
  rw [qAS] at h1 h2
  exact ⟨by simpa using h1, by simpa [Nat.add_assoc] using h2⟩
theorem ownR_row {w : World} {base : Nat} {v : Value} {xs : List Re} (h : w.ownsRow base 120 4 v xs.length (rcells xs)) (hm : xs.length <= maxLen) : qDG w v xs := by
 rcases id h.2 with ⟨hv, h0⟩ | ⟨g, cap, cur, rfl, _, hgg, _⟩
 ·exact ⟨none, 0, by rw [hv, h0], hm, fun h => by omega⟩
 ·refine ⟨some ⟨g, 0, none⟩, cap, rfl, hm, fun _ => ⟨g, 0, rfl, qC hgg, fun i hi => ?_⟩⟩
  obtain ⟨a, b, c, d⟩ := qGB xs i hi
  have k0 := h.cells rfl _ _ a
  have k1 := h.cells rfl _ _ b
  have k2 := h.cells rfl _ _ c
  have k3 := h.cells rfl _ _ d
  rw [qAS] at k0 k1 k2 k3
  exact ⟨k0, k1, k2, k3⟩
theorem PK.fin {x : SU} {w W W' : World} {rv cv sv : Value} {ra : List Re} {cd : List UInt8} {sy : List Sy} (h : PK x w W rv ra cv cd sv sy) (hb : Below w.heap.size W W') (hs : ∀ i, i < W.heap.size -> i ≠ w.heap.size -> i ≠ w.heap.size + 1 -> i ≠ w.heap.size + 1 + 1 -> W'.heap[i]? = W.heap[i]?) (h1 : cd.length <= maxLen) (h3 : ra.length <= maxLen) :
  qg W' cv cd /\ qAw W' sv sy /\ qDG W' rv ra /\ Fr x.gu w.heap.size w W' := by
 have hrow : ∀ {base size n : Nat} {e : TypeId} {v : Value} {xs : List Value}, W.ownsRow base e size v n xs -> e ≠ 49 -> e ≠ 36 -> W'.ownsRow base e size v n xs := by
  intro base size n e v xs hr e1 e2
  refine ⟨hr.1, ?_⟩
  rcases hr.2 with h5 | ⟨q, cap, cur, h5, h6, h7, h8⟩
  ·exact .inl h5
  ·refine .inr ⟨q, cap, cur, h5, h6, ?_, h8⟩
   have hne : ∀ {p : Nat} {c : Array Value} {t : TypeId}, W.heap[p]? = some (.cells c t (0, 0)) -> t ≠ e -> q ≠ p := by
    rintro p c t hp ht rfl
    rw [hp] at h7
    injection h7 with h7
    injection h7 with _ h9
    exact ht h9
   rw [hs q (qC h7) (hne h.r0 (Ne.symm e1)) (hne h.r1 (Ne.symm e2)) (hne h.ob (Ne.symm e1))]
   exact h7
 refine ⟨Out.bytes (base := w.heap.size + 3) ⟨hrow h.out.1 (by decide) (by decide), Nat.le_trans h.out.2 hb.size⟩ h1, qEx (hrow h.sy (by decide) (by decide)), ownR_row (hrow h.ws.rel (by decide) (by decide)) h3, h.ws.fr.trans (Fr.below hb)⟩
theorem qK6 (x : SU) (B : Nat) (w : World) (its : List It) (l : List (It × Value × Value)) (code : List UInt8) (rs : List Re) (hs : S0 x w) (hu : w.heap[x.gu]? = some (.cells (x.C (.slice none 0 0)) 141 (0, 0))) (hrow : w.ownsRow B 198 6 x.iv its.length (itC l)) (hl : l.map (·.1) = its) (hn : x.n = its.length)
  (hsh : ∀ p, p ∈ l -> (p.2.1 = .nilFunc \/ ∃ a b c, p.2.1 = .func a b c)) (hal : ∀ i, i ∈ its -> 1 <= i.align /\ i.align <= 16) (hB : BytesOf x w its l)
  (hw : qBT ⟨x.labs, its, x.firsts⟩ x.ps 0 [] [] its = .ok (code, rs)) (hc : code.length <= 100000) (hrl : rs.length <= 100000)
  (hnv : w.ownsRow B 9 1 x.nv x.labs.length (x.labs.map fun a => .string ⟨a.1.toArray⟩)) (hlb : ∀ j (h : j < x.labs.length), qAX x.labs[j].1 x.labs = some x.labs[j].2 /\ x.labs[j].1.length <= maxLen) (hln : x.labs.length <= 100000) :
  Calls Tryz.prog 74 #[.pointer (some ⟨x.gu, 0, none⟩)] w fun r W' => ∃ ca cl cc sa sl sc ra rl rc, r = .returned (.tuple #[.agg #[.slice ca cl cc, .slice sa sl sc, .slice ra rl rc], .agg #[.int .i64 0, .int .i64 0]]) /\ qg W' (.slice ca cl cc) code /\ qAw W' (.slice sa sl sc) (qCS ⟨x.labs, its, x.firsts⟩ x.ps) /\ qDG W' (.slice ra rl rc) rs /\ Fr x.gu w.heap.size w W' := by
 have HNV := Lib.hid hnv
 have HLB := Lib.hid hlb
 clear hnv hlb
 obtain ⟨ia, ic, hiv⟩ := qG hrow
 have c4 : w.cell? ⟨x.gu, 4, none⟩ = some (.slice ia its.length ic) := by rw [<- hiv]; exact qB hu rfl
 have c6 : w.cell? ⟨x.gu, 6, none⟩ = some (.slice (some ⟨x.gp, 0, none⟩) (x.n + 1) (x.n + 1)) := qB hu rfl
 have hg := qC hu
 have hg1 : x.gu < w.heap.size + 1 := by omega
 have hg2 : x.gu < w.heap.size + 1 + 1 := by omega
 have hg3 : x.gu < w.heap.size + 1 + 1 + 1 := by omega
 have hll : l.length = its.length := by rw [<- hl]; simp
 have HU := Lib.hid hu
 have HS := Lib.hid hs
 have HROW := Lib.hid hrow
 have HL := Lib.hid hl
 have HSH := Lib.hid hsh
 have HAL := Lib.hid hal
 have HBY := Lib.hid hB
 have HW := Lib.hid hw
 have HIV := Lib.hid hiv
 clear hu hs hrow hl hsh hal hB hw hiv
 go_enter Tryz.func74, Tryz.ntmps74
 go_wp2_with fail
 have hB3 : Below w.heap.size w (((w.alloc (.cells #[.slice none 0 0, .slice none 0 0, .slice none 0 0] 49)).alloc (.cells #[.int .i64 0, .int .i64 0] 36)).alloc (.cells #[.slice none 0 0, .slice none 0 0, .slice none 0 0] 49)) := by go_grown
 have hz3 : (((w.alloc (.cells #[.slice none 0 0, .slice none 0 0, .slice none 0 0] 49)).alloc (.cells #[.int .i64 0, .int .i64 0] 36)).alloc (.cells #[.slice none 0 0, .slice none 0 0, .slice none 0 0] 49)).heap.size = w.heap.size + 3 := by simp
 have x0 : (((w.alloc (.cells #[.slice none 0 0, .slice none 0 0, .slice none 0 0] 49)).alloc (.cells #[.int .i64 0, .int .i64 0] 36)).alloc (.cells #[.slice none 0 0, .slice none 0 0, .slice none 0 0] 49)).heap[w.heap.size]? = some (.cells #[.slice none 0 0, .slice none 0 0, .slice none 0 0] 49 (0, 0)) := by
  rw [old2 _ _ (by go_size), old2 _ _ (by go_size)]; exact qH _ _ rfl
 have x1 : (((w.alloc (.cells #[.slice none 0 0, .slice none 0 0, .slice none 0 0] 49)).alloc (.cells #[.int .i64 0, .int .i64 0] 36)).alloc (.cells #[.slice none 0 0, .slice none 0 0, .slice none 0 0] 49)).heap[w.heap.size + 1]? = some (.cells #[.int .i64 0, .int .i64 0] 36 (0, 0)) := by
  rw [old2 _ _ (by go_size)]; exact qH _ _ (by go_size)
 have x2 : (((w.alloc (.cells #[.slice none 0 0, .slice none 0 0, .slice none 0 0] 49)).alloc (.cells #[.int .i64 0, .int .i64 0] 36)).alloc (.cells #[.slice none 0 0, .slice none 0 0, .slice none 0 0] 49)).heap[w.heap.size + 1 + 1]? = some (.cells #[.slice none 0 0, .slice none 0 0, .slice none 0 0] 49 (0, 0)) := qH _ _ (by go_size)
 generalize (((w.alloc (.cells #[.slice none 0 0, .slice none 0 0, .slice none 0 0] 49)).alloc (.cells #[.int .i64 0, .int .i64 0] 36)).alloc (.cells #[.slice none 0 0, .slice none 0 0, .slice none 0 0] 49)) = W1 at *
 have hS1 : WS x w W1 (.slice none 0 0) [] := WS.go ⟨HS.out, Fr.refl _ _ _, ⟨_, HU.out⟩, HU.out, World.ownsRow_nil _ _ _ _⟩ hB3
 have HS1 := Lib.hid hS1
 have X0 := Lib.hid x0
 have X1 := Lib.hid x1
 have X2 := Lib.hid x2
 clear hB3 x0 x1 x2 hS1
 go_loopw [17] (fun iv wr => ∃ (k : Nat) (cd : List UInt8) (ra : List Re) (rv : Value) (ca : Option Addr) (cc : Nat), k <= its.length /\ iv = .int .i64 k /\ Hid (WS x w wr rv ra) /\ Hid (wr.heap[w.heap.size]? = some (.cells #[.slice none 0 0, .slice none 0 0, .slice none 0 0] 49 (0, 0))) /\ Hid (wr.heap[w.heap.size + 1]? = some (.cells #[.int .i64 0, .int .i64 0] 36 (0, 0))) /\ Hid (wr.heap[w.heap.size + 1 + 1]? = some (.cells #[.slice ca cd.length cc, .slice none 0 0, .slice none 0 0] 49 (0, 0))) /\ Hid (Out wr (w.heap.size + 3) (.slice ca cd.length cc) cd) /\ Hid (qBT ⟨x.labs, its, x.firsts⟩ x.ps k cd ra (its.drop k) = .ok (code, rs))) (fun iv _ => its.length - (intOf iv).toNat)
 case atStart => exact ⟨0, [], [], _, none, 0, Nat.zero_le _, rfl, HS1, X0, X1, X2, ⟨World.ownsRow_nil _ _ _ _, by rw [hz3]; exact Nat.le_refl _⟩, HW⟩
 case round =>
  obtain ⟨k, cd, ra, rv, ca, cc, hk, rfl, HS2, Y0, Y1, Y2, HO, HWK⟩ := hrel
  by_cases hlt : k < its.length
  ·have hk' : (k : Int) < its.length := by omega
   obtain ⟨hal0, b, r2, hbk, hwk⟩ := qER hlt HWK.out
   have hm1 := qDK _ _ _ _ _ _ _ _ HWK.out
   have hm2 := qDK _ _ _ _ _ _ _ _ hwk
   simp only [List.length_append] at hm2
   have hrow2 := HROW.out
   rw [HIV.out] at hrow2
   obtain ⟨g, cur, rfl, hgc, hcells⟩ := qDR hrow2 hll hlt
   have hggu : g ≠ x.gu := by
    rintro rfl
    have := hgc.symm.trans HU.out
    injection this with this
    injection this with _ e2
    exact absurd e2 (by decide)
   obtain ⟨hgl, i0, i1, i2, i3, i4, i5⟩ := hcells wr (HS2.out.fr.block g (qC hgc) hggu)
   have hlk : (l[k]'(by omega)).1 = its[k] := by
    have := HL.out
    subst this
    simp
   obtain ⟨f, caps, hf2, hent, hby⟩ := HBY.out k (by omega) ra r2 b (by omega) (by rw [hlk]; exact hbk)
   obtain ⟨x1, x2⟩ := HAL.out its[k] (List.getElem_mem _)
   have hfa := HSH.out (l[k]'(by omega)) (List.getElem_mem _)
   have hs0 := HS2.out.s0
   have d6 : wr.cell? ⟨x.gu, 6, none⟩ = some (.slice (some ⟨x.gp, 0, none⟩) (x.n + 1) (x.n + 1)) := qB HS2.out.box rfl
   obtain ⟨q, hq⟩ : ∃ q, x.ps.getD k 0 = q := ⟨_, rfl⟩
   obtain ⟨q', hq'⟩ : ∃ q', x.ps.getD (k + 1) 0 = q' := ⟨_, rfl⟩
   have p1 : wr.cell? ⟨x.gp, k, none⟩ = some (.int .i64 q) := by obtain ⟨cs, k1, _, _, k4⟩ := hs0.pl; rw [<- hq]; exact qB k1 (k4 k (by omega))
   have p2 : wr.cell? ⟨x.gp, k + 1, none⟩ = some (.int .i64 q') := by obtain ⟨cs, k1, _, _, k4⟩ := hs0.pl; rw [<- hq']; exact qB k1 (k4 (k + 1) (by omega))
   have zp : x.gp < wr.heap.size := by obtain ⟨cs, k1, _⟩ := hs0.pl; exact qC k1
   have zu := qC HS2.out.box
   have hbd := hs0.bd k
   have hbd' := hs0.bd (k + 1)
   have hnn := hs0.nn
   rw [hq] at hal0 hbd hby
   rw [hq'] at hbd' hby
   rw [hlk] at i0 i1 i2 i3
   generalize its[k].size = sz at *
   generalize its[k].upTo = up at *
   generalize its[k].line = li at *
   generalize its[k].align = al at *
   have hal1 : al ≠ 0 := by omega
   have hal2 : (q.tmod al == 0) = true := beq_iff_eq.2 hal0
   rw [hf2] at i5
   generalize (l[k]'(by omega)).2.1 = fa at *
   have HBYC := Lib.hid hby
   have HWK2 := Lib.hid hwk
   clear hcells hlk hf2 hby hwk hbk hs0 hrow2 hgc
   rcases hfa with rfl | ⟨xa, xb, xc, rfl⟩
   ·skip
    go_wp2_with fail
    obtain ⟨V, hV⟩ : ∃ V, V = wr.alloc (.cells #[.int .i64 li, .int .i64 sz, .int .i64 up, .int .i64 al, .nilFunc, .func (.func f) #[] caps] 198) := ⟨_, rfl⟩
    have hVb : Below wr.heap.size wr V := by rw [hV]; exact qE _ _
    have hOB : V.heap[wr.heap.size]? = some (.cells #[.int .i64 li, .int .i64 sz, .int .i64 up, .int .i64 al, .nilFunc, .func (.func f) #[] caps] 198 (0, 0)) := by rw [hV]; exact qH _ _ rfl
    have HSV := Lib.hid (HS2.out.go hVb)
    have HOV := Lib.hid (HO.out.below hVb (Nat.le_refl _))
    have Y0V := Lib.hid ((hVb.block _ (qC Y0.out)).trans Y0.out)
    have Y1V := Lib.hid ((hVb.block _ (qC Y1.out)).trans Y1.out)
    have Y2V := Lib.hid ((hVb.block _ (qC Y2.out)).trans Y2.out)
    have e6 : V.cell? ⟨x.gu, 6, none⟩ = some (.slice (some ⟨x.gp, 0, none⟩) (x.n + 1) (x.n + 1)) := (hVb.cell (by exact zu)).trans d6
    have e2 : V.cell? ⟨x.gp, k + 1, none⟩ = some (.int .i64 q') := (hVb.cell (by exact zp)).trans p2
    have hcall := Lib.hid (HBYC.out V.drew rv (HSV.out.go (Below.refl _ _).drew))
    have HW1 : Hid (IntKind.i64.wrap ((k : Int) + 1) = ((k + 1 : Nat) : Int)) := by unfold Hid; rw [IntWalk.i64_in _ (by omega)]; omega
    have HW2 : Hid (IntKind.i64.wrap (q' - q) = q' - q) := IntWalk.i64_in _ (by omega)
    have hk3 : ((k + 1 : Nat) : Int) < (its.length : Int) + 1 := by omega
    rw [<- hV]
    rw [hn] at e6
    clear hV hVb HS2 HO Y0 Y1 Y2 d6 p1 p2 HBYC i0 i1 i2 i3 i4 i5
    refine wp_region_noPanic ?_
    refine wp_region_held_drew (S := fun X => X.heap[wr.heap.size]? = some (.cells #[.int .i64 li, .int .i64 sz, .int .i64 up, .int .i64 al, .nilFunc, .func (.func f) #[] caps] 198 (0, 0)) /\ X.cell? ⟨x.gu, 6, none⟩ = some (.slice (some ⟨x.gp, 0, none⟩) (its.length + 1) (its.length + 1)) /\ X.cell? ⟨x.gp, k + 1, none⟩ = some (.int .i64 q')) (by kernel_rfl) ⟨hOB, e6, e2⟩ (fun hHeld => ?_)
    clear hOB e6 e2
    refine tk 0 39 hHeld ?_
    simp only [sA, sB, sC]
    refine tk2 1 40 (v := ?_) ?_ hHeld ?_
    rotate_left
    ·intro w hSw
     have y5 := qA (i := 5) hSw.1 rfl
     go_simp
     try with_reducible rfl
    simp only [sA, sB, sC]
    refine tk 2 41 hHeld ?_
    simp only [sA, sB, sC]
    refine tk 3 42 hHeld ?_
    simp only [sA, sB, sC]
    refine tk 4 43 hHeld ?_
    simp only [sA, sB, sC]
    refine tk 5 44 hHeld ?_
    simp only [sA, sB, sC]
    refine tk2 6 45 (v := ?_) ?_ hHeld ?_
    rotate_left
    ·intro w hSw
     have y6 := hSw.2.1
     go_simp
     try with_reducible rfl
    simp only [sA, sB, sC]
    refine tk 7 46 hHeld ?_
    simp only [sA, sB, sC]
    refine tk2 8 47 (v := ?_) ?_ hHeld ?_
    rotate_left
    ·intro w hSw
     have hw1 := HW1.out
     go_simp
     try with_reducible rfl
    simp only [sA, sB, sC]
    refine tk2 9 48 (v := ?_) ?_ hHeld ?_
    rotate_left
    ·intro w hSw
     have hw3 := hk3
     have hw4 : (0 : Int) <= (k : Int) + 1 := by omega
     go_simp
     try with_reducible rfl
    simp only [sA, sB, sC]
    refine tk2 10 49 (v := ?_) ?_ hHeld ?_
    rotate_left
    ·intro w hSw
     have y7 := hSw.2.2
     go_simp
     try with_reducible rfl
    simp only [sA, sB, sC]
    refine tk 11 50 hHeld ?_
    simp only [sA, sB, sC]
    refine tk2 12 51 (v := ?_) ?_ hHeld ?_
    rotate_left
    ·intro w hSw
     have hw2 := HW2.out
     go_simp
     try with_reducible rfl
    simp only [sA, sB, sC]
    refine wr1 13 fun K hK => ?_
    go_simp
    refine hcall.out.mono ?_
    rintro e W' ⟨ba, bl, bc, rv', rfl, hob, hws, hch⟩
    have hbV : V.drew.heap[x.gu]? = some (.cells (x.C rv) 141 (0, 0)) := HSV.out.box
    have hrV : V.drew.ownsRow w.heap.size 120 4 rv ra.length (rcells ra) := HSV.out.rel
    have Y0W := Lib.hid (qDX (W := V.drew) Y0V.out hch hbV (by decide) hrV (by decide))
    have Y1W := Lib.hid (qDX (W := V.drew) Y1V.out hch hbV (by decide) hrV (by decide))
    have Y2W := Lib.hid (qDX (W := V.drew) Y2V.out hch hbV (by decide) hrV (by decide))
    have hOBW : W'.heap[wr.heap.size]? = some (.cells #[.int .i64 li, .int .i64 sz, .int .i64 up, .int .i64 al, .nilFunc, .func (.func f) #[] caps] 198 (0, 0)) := qDX (W := V.drew) hHeld.1 hch hbV (by decide) hrV (by decide)
    have HOW : Hid (Out W' (w.heap.size + 3) (.slice ca cd.length cc) cd) := ⟨row_ch (W := V.drew) HOV.out.1 hch hbV (by decide) hrV (by decide), Nat.le_trans HOV.out.2 hch.size⟩
    have hs0' := hws.s0
    have e6 : W'.cell? ⟨x.gu, 6, none⟩ = some (.slice (some ⟨x.gp, 0, none⟩) (its.length + 1) (its.length + 1)) := by rw [<- hn]; exact qB hws.box rfl
    have e2 : W'.cell? ⟨x.gp, k + 1, none⟩ = some (.int .i64 q') := by obtain ⟨cs, k1, _, _, k4⟩ := hs0'.pl; rw [<- hq']; exact qB k1 (k4 (k + 1) (by omega))
    have HWS := Lib.hid hws
    have HOBB := Lib.hid hob
    clear hob hws hch hcall hbV hrV hs0' HSV HOV Y0V Y1V Y2V
    go_simp
    refine hK.out _ _ ⟨hOBW, e6, e2⟩ (fun hHeld => ?_)
    clear hK K hOBW e6 e2
    refine tk 14 38 hHeld ?_
    simp only [sA, sB, sC]
    refine tk 15 53 hHeld ?_
    simp only [sA, sB, sC]
    refine tk 16 54 hHeld ?_
    simp only [sA, sB, sC]
    refine tk 17 8 hHeld ?_
    simp only [sA, sB, sC]
    refine tk 18 9 hHeld ?_
    simp only [sA, sB, sC]
    refine wpAnyH_done (by kernel_rfl) ?_ _
    refine NoPanic.normal ?_
    clear hHeld
    have o0 : W'.cell? ⟨w.heap.size + 1 + 1, 0, none⟩ = some (.slice ca cd.length cc) := qB Y2W.out rfl
    have zo := qC Y2W.out
    obtain ⟨v', W3, happ, hO3, hg3⟩ := qBP HOW.out HOBB.out (by omega)
    have hb2 := HOW.out.box hg3 Y2W.out (by decide)
    have Z0 := Lib.hid (HOW.out.box hg3 Y0W.out (by decide))
    have Z1 := Lib.hid (HOW.out.box hg3 Y1W.out (by decide))
    have Z2 := Lib.hid hb2
    have fo : W3.frozen? ⟨w.heap.size + 1 + 1, 0, none⟩ = false := qD hb2
    have ho3 : W3.cell? ⟨w.heap.size + 1 + 1, 0, none⟩ = some (.slice ca cd.length cc) := qB hb2 rfl
    have zo3 := qC hb2
    have HS3 := Lib.hid (HWS.out.grown hg3 (fun j hj => by have := (HOW.out.lt j hj).1; omega) (qBD HOW.out.1 HWS.out.rel (by decide)))
    obtain ⟨na, nc, hv'⟩ := qG hO3.1
    subst hv'
    have HO3 := Lib.hid hO3
    have HAPP := Lib.hid happ
    clear hO3 hg3 hb2 happ HWS HOW HOBB Y0W Y1W Y2W
    go_wp2_with (first | (at_builtin; refine qQ rfl _ _ _ _ rfl _ _ rfl rfl HAPP.out ?_) | fail)
    refine ⟨⟨k + 1, cd ++ b, r2, rv', na, nc, by omega, by go_num, Lib.hid (HS3.out.set Z2.out (by decide) (by omega) _), Lib.hid ?_, Lib.hid ?_, Lib.hid ?_, Lib.hid ⟨qAr HO3.out.1 (by omega), by simpa using HO3.out.2⟩, HWK2⟩, by simp [intOf]; omega⟩
    ·rw [Below.heap_setCell _ _ _ _ (by show w.heap.size ≠ w.heap.size + 1 + 1; omega)]; exact Z0.out
    ·rw [Below.heap_setCell _ _ _ _ (by show w.heap.size + 1 ≠ w.heap.size + 1 + 1; omega)]; exact Z1.out
    ·rw [List.length_append]; exact qJ Z2.out
   ·skip
    go_wp2_with fail
    obtain ⟨V, hV⟩ : ∃ V, V = wr.alloc (.cells #[.int .i64 li, .int .i64 sz, .int .i64 up, .int .i64 al, .func xa xb xc, .func (.func f) #[] caps] 198) := ⟨_, rfl⟩
    have hVb : Below wr.heap.size wr V := by rw [hV]; exact qE _ _
    have hOB : V.heap[wr.heap.size]? = some (.cells #[.int .i64 li, .int .i64 sz, .int .i64 up, .int .i64 al, .func xa xb xc, .func (.func f) #[] caps] 198 (0, 0)) := by rw [hV]; exact qH _ _ rfl
    have HSV := Lib.hid (HS2.out.go hVb)
    have HOV := Lib.hid (HO.out.below hVb (Nat.le_refl _))
    have Y0V := Lib.hid ((hVb.block _ (qC Y0.out)).trans Y0.out)
    have Y1V := Lib.hid ((hVb.block _ (qC Y1.out)).trans Y1.out)
    have Y2V := Lib.hid ((hVb.block _ (qC Y2.out)).trans Y2.out)
    have e6 : V.cell? ⟨x.gu, 6, none⟩ = some (.slice (some ⟨x.gp, 0, none⟩) (x.n + 1) (x.n + 1)) := (hVb.cell (by exact zu)).trans d6
    have e2 : V.cell? ⟨x.gp, k + 1, none⟩ = some (.int .i64 q') := (hVb.cell (by exact zp)).trans p2
    have hcall := Lib.hid (HBYC.out V.drew rv (HSV.out.go (Below.refl _ _).drew))
    have HW1 : Hid (IntKind.i64.wrap ((k : Int) + 1) = ((k + 1 : Nat) : Int)) := by unfold Hid; rw [IntWalk.i64_in _ (by omega)]; omega
    have HW2 : Hid (IntKind.i64.wrap (q' - q) = q' - q) := IntWalk.i64_in _ (by omega)
    have hk3 : ((k + 1 : Nat) : Int) < (its.length : Int) + 1 := by omega
    rw [<- hV]
    rw [hn] at e6
    clear hV hVb HS2 HO Y0 Y1 Y2 d6 p1 p2 HBYC i0 i1 i2 i3 i4 i5
    refine wp_region_noPanic ?_
    refine wp_region_held_drew (S := fun X => X.heap[wr.heap.size]? = some (.cells #[.int .i64 li, .int .i64 sz, .int .i64 up, .int .i64 al, .func xa xb xc, .func (.func f) #[] caps] 198 (0, 0)) /\ X.cell? ⟨x.gu, 6, none⟩ = some (.slice (some ⟨x.gp, 0, none⟩) (its.length + 1) (its.length + 1)) /\ X.cell? ⟨x.gp, k + 1, none⟩ = some (.int .i64 q')) (by kernel_rfl) ⟨hOB, e6, e2⟩ (fun hHeld => ?_)
    clear hOB e6 e2
    refine tk 0 39 hHeld ?_
    simp only [sA, sB, sC]
    refine tk2 1 40 (v := ?_) ?_ hHeld ?_
    rotate_left
    ·intro w hSw
     have y5 := qA (i := 5) hSw.1 rfl
     go_simp
     try with_reducible rfl
    simp only [sA, sB, sC]
    refine tk 2 41 hHeld ?_
    simp only [sA, sB, sC]
    refine tk 3 42 hHeld ?_
    simp only [sA, sB, sC]
    refine tk 4 43 hHeld ?_
    simp only [sA, sB, sC]
    refine tk 5 44 hHeld ?_
    simp only [sA, sB, sC]
    refine tk2 6 45 (v := ?_) ?_ hHeld ?_
    rotate_left
    ·intro w hSw
     have y6 := hSw.2.1
     go_simp
     try with_reducible rfl
    simp only [sA, sB, sC]
    refine tk 7 46 hHeld ?_
    simp only [sA, sB, sC]
    refine tk2 8 47 (v := ?_) ?_ hHeld ?_
    rotate_left
    ·intro w hSw
     have hw1 := HW1.out
     go_simp
     try with_reducible rfl
    simp only [sA, sB, sC]
    refine tk2 9 48 (v := ?_) ?_ hHeld ?_
    rotate_left
    ·intro w hSw
     have hw3 := hk3
     have hw4 : (0 : Int) <= (k : Int) + 1 := by omega
     go_simp
     try with_reducible rfl
    simp only [sA, sB, sC]
    refine tk2 10 49 (v := ?_) ?_ hHeld ?_
    rotate_left
    ·intro w hSw
     have y7 := hSw.2.2
     go_simp
     try with_reducible rfl
    simp only [sA, sB, sC]
    refine tk 11 50 hHeld ?_
    simp only [sA, sB, sC]
    refine tk2 12 51 (v := ?_) ?_ hHeld ?_
    rotate_left
    ·intro w hSw
     have hw2 := HW2.out
     go_simp
     try with_reducible rfl
    simp only [sA, sB, sC]
    refine wr1 13 fun K hK => ?_
    go_simp
    refine hcall.out.mono ?_
    rintro e W' ⟨ba, bl, bc, rv', rfl, hob, hws, hch⟩
    have hbV : V.drew.heap[x.gu]? = some (.cells (x.C rv) 141 (0, 0)) := HSV.out.box
    have hrV : V.drew.ownsRow w.heap.size 120 4 rv ra.length (rcells ra) := HSV.out.rel
    have Y0W := Lib.hid (qDX (W := V.drew) Y0V.out hch hbV (by decide) hrV (by decide))
    have Y1W := Lib.hid (qDX (W := V.drew) Y1V.out hch hbV (by decide) hrV (by decide))
    have Y2W := Lib.hid (qDX (W := V.drew) Y2V.out hch hbV (by decide) hrV (by decide))
    have hOBW : W'.heap[wr.heap.size]? = some (.cells #[.int .i64 li, .int .i64 sz, .int .i64 up, .int .i64 al, .func xa xb xc, .func (.func f) #[] caps] 198 (0, 0)) := qDX (W := V.drew) hHeld.1 hch hbV (by decide) hrV (by decide)
    have HOW : Hid (Out W' (w.heap.size + 3) (.slice ca cd.length cc) cd) := ⟨row_ch (W := V.drew) HOV.out.1 hch hbV (by decide) hrV (by decide), Nat.le_trans HOV.out.2 hch.size⟩
    have hs0' := hws.s0
    have e6 : W'.cell? ⟨x.gu, 6, none⟩ = some (.slice (some ⟨x.gp, 0, none⟩) (its.length + 1) (its.length + 1)) := by rw [<- hn]; exact qB hws.box rfl
    have e2 : W'.cell? ⟨x.gp, k + 1, none⟩ = some (.int .i64 q') := by obtain ⟨cs, k1, _, _, k4⟩ := hs0'.pl; rw [<- hq']; exact qB k1 (k4 (k + 1) (by omega))
    have HWS := Lib.hid hws
    have HOBB := Lib.hid hob
    clear hob hws hch hcall hbV hrV hs0' HSV HOV Y0V Y1V Y2V
    go_simp
    refine hK.out _ _ ⟨hOBW, e6, e2⟩ (fun hHeld => ?_)
    clear hK K hOBW e6 e2
    refine tk 14 38 hHeld ?_
    simp only [sA, sB, sC]
    refine tk 15 53 hHeld ?_
    simp only [sA, sB, sC]
    refine tk 16 54 hHeld ?_
    simp only [sA, sB, sC]
    refine tk 17 8 hHeld ?_
    simp only [sA, sB, sC]
    refine tk 18 9 hHeld ?_
    simp only [sA, sB, sC]
    refine wpAnyH_done (by kernel_rfl) ?_ _
    refine NoPanic.normal ?_
    clear hHeld
    have o0 : W'.cell? ⟨w.heap.size + 1 + 1, 0, none⟩ = some (.slice ca cd.length cc) := qB Y2W.out rfl
    have zo := qC Y2W.out
    obtain ⟨v', W3, happ, hO3, hg3⟩ := qBP HOW.out HOBB.out (by omega)
    have hb2 := HOW.out.box hg3 Y2W.out (by decide)
    have Z0 := Lib.hid (HOW.out.box hg3 Y0W.out (by decide))
    have Z1 := Lib.hid (HOW.out.box hg3 Y1W.out (by decide))
    have Z2 := Lib.hid hb2
    have fo : W3.frozen? ⟨w.heap.size + 1 + 1, 0, none⟩ = false := qD hb2
    have ho3 : W3.cell? ⟨w.heap.size + 1 + 1, 0, none⟩ = some (.slice ca cd.length cc) := qB hb2 rfl
    have zo3 := qC hb2
    have HS3 := Lib.hid (HWS.out.grown hg3 (fun j hj => by have := (HOW.out.lt j hj).1; omega) (qBD HOW.out.1 HWS.out.rel (by decide)))
    obtain ⟨na, nc, hv'⟩ := qG hO3.1
    subst hv'
    have HO3 := Lib.hid hO3
    have HAPP := Lib.hid happ
    clear hO3 hg3 hb2 happ HWS HOW HOBB Y0W Y1W Y2W
    go_wp2_with (first | (at_builtin; refine qQ rfl _ _ _ _ rfl _ _ rfl rfl HAPP.out ?_) | fail)
    refine ⟨⟨k + 1, cd ++ b, r2, rv', na, nc, by omega, by go_num, Lib.hid (HS3.out.set Z2.out (by decide) (by omega) _), Lib.hid ?_, Lib.hid ?_, Lib.hid ?_, Lib.hid ⟨qAr HO3.out.1 (by omega), by simpa using HO3.out.2⟩, HWK2⟩, by simp [intOf]; omega⟩
    ·rw [Below.heap_setCell _ _ _ _ (by show w.heap.size ≠ w.heap.size + 1 + 1; omega)]; exact Z0.out
    ·rw [Below.heap_setCell _ _ _ _ (by show w.heap.size + 1 ≠ w.heap.size + 1 + 1; omega)]; exact Z1.out
    ·rw [List.length_append]; exact qJ Z2.out
  ·obtain rfl : k = its.length := by omega
   have hk' : ¬ ((its.length : Nat) : Int) < its.length := by omega
   have hfin := HWK.out
   rw [List.drop_length, qBT] at hfin
   injection hfin with hfin
   obtain ⟨rfl, rfl⟩ := Prod.mk.inj hfin
   clear HWK hfin HW HBY HAL HSH HL
   obtain ⟨na, nc, hnv⟩ := qG HNV.out
   have d2 : wr.cell? ⟨x.gu, 2, none⟩ = some (.slice na x.labs.length nc) := by rw [<- hnv]; exact qB HS2.out.box rfl
   have zu := qC HS2.out.box
   go_wp2_with fail
   go_loopw [73] (fun iv ws => ∃ (j : Nat) (sa : Option Addr) (sc : Nat), j <= x.labs.length /\ iv = .int .i64 j /\ Hid (PK x w ws rv ra (.slice ca cd.length cc) cd (.slice sa j sc) ((qCS ⟨x.labs, its, x.firsts⟩ x.ps).take j))) (fun iv _ => x.labs.length - (intOf iv).toNat)
   case atStart => exact ⟨0, none, 0, Nat.zero_le _, rfl, ⟨HS2.out, Y0.out, Y1.out, Y2.out, HO.out, World.ownsRow_nil _ _ _ _⟩⟩
   case round =>
    clear HS2 Y0 Y1 Y2 HO d2 zu HS1 X0 X1 X2
    obtain ⟨j, sa, sc, hj, rfl, HPK⟩ := hrel
    by_cases hlt2 : j < x.labs.length
    ·have hj' : (j : Int) < x.labs.length := by omega
     obtain ⟨hk1, hk2⟩ := HLB.out j hlt2
     obtain ⟨nm, hnm⟩ : ∃ nm, (x.labs[j]'hlt2).1 = nm := ⟨_, rfl⟩
     obtain ⟨kk, hkk⟩ : ∃ kk, (x.labs[j]'hlt2).2 = kk := ⟨_, rfl⟩
     have hsl : (qCS ⟨x.labs, its, x.firsts⟩ x.ps).length = x.labs.length := by simp [qCS]
     have hsj : (qCS ⟨x.labs, its, x.firsts⟩ x.ps)[j]'(by omega) = ⟨nm, x.ps.getD kk 0⟩ := by simp [qCS, hnm, hkk]
     have HTK : Hid ((qCS ⟨x.labs, its, x.firsts⟩ x.ps).take (j + 1) = (qCS ⟨x.labs, its, x.firsts⟩ x.ps).take j ++ [⟨nm, x.ps.getD kk 0⟩]) := by
      unfold Hid
      rw [List.take_succ_eq_append_getElem (by omega), hsj]
     have HLN : Hid (((qCS ⟨x.labs, its, x.firsts⟩ x.ps).take j).length = j) := by unfold Hid; simp [hsl]; omega
     obtain ⟨gn, rfl, hgn, n0⟩ : ∃ g, na = some ⟨g, 0, none⟩ /\ g < wr.heap.size /\ wr.cell? ⟨g, j, none⟩ = some (.string ⟨nm.toArray⟩) := by
      rcases id HNV.out.2 with ⟨hv, h0⟩ | ⟨g, cap, cur, hv, hg0, hgg, _⟩
      ·omega
      ·rw [hnv] at hv
       injection hv with e1 _ _
       have hgw : wr.heap[g]? = some (.cells cur 9 (0, 0)) := HPK.out.ws.keep hgg (by
        rintro rfl
        have := hgg.symm.trans HU.out
        injection this with this
        injection this with _ e2
        exact absurd e2 (by decide))
       have hcc : ∀ i, wr.cell? ⟨g, i, none⟩ = w.cell? ⟨g, i, none⟩ := fun i => by simp only [World.cell?, hgw, hgg]
       have q0 := HNV.out.cells (g := g) (by rw [hnv, e1]; rfl) j (.string ⟨nm.toArray⟩) (by simp [hlt2, hnm])
       rw [qAS, Nat.zero_add, <- hcc] at q0
       exact ⟨g, e1, qC hgw, q0⟩
     rw [hnm] at hk1 hk2
     rw [hkk] at hk1
     obtain ⟨z, hz⟩ : ∃ z, x.ps.getD kk 0 = z := ⟨_, rfl⟩
     rw [hz] at HTK
     have hkn := HS.out.lab nm kk hk1
     clear hnm hkk hsj hsl
     go_wp2_with fail
     refine wp_region_noPanic ?_
     refine wp_region_held_drew (S := fun X => WS x w X rv ra) (by kernel_rfl) (HPK.out.ws.go (Below.refl _ _).drew) (fun hHeld => ?_)
     obtain ⟨V0, hV0⟩ : ∃ X, X = wr.drew := ⟨_, rfl⟩
     have HP0 : Hid (PK x w V0 rv ra (.slice ca cd.length cc) cd (.slice sa j sc) ((qCS ⟨x.labs, its, x.firsts⟩ x.ps).take j)) := by rw [hV0]; exact HPK.out.go (Below.refl _ _).drew
     rw [<- hV0] at hHeld ⊢
     clear hV0 HPK n0 hgn
     refine tk 0 77 hHeld ?_
     simp only [sA, sB, sC]
     refine tk 2 79 hHeld ?_
     simp only [sA, sB, sC]
     refine tk 3 80 hHeld ?_
     simp only [sA, sB, sC]
     refine tk 4 81 hHeld ?_
     simp only [sA, sB, sC]
     refine tk 5 82 hHeld ?_
     simp only [sA, sB, sC]
     refine tk2 6 83 (v := ?_) ?_ hHeld ?_
     rotate_left
     ·intro w hSw
      have y6 : w.cell? ⟨x.gu, 6, none⟩ = some (.slice (some ⟨x.gp, 0, none⟩) (x.n + 1) (x.n + 1)) := qB hSw.box rfl
      go_simp
      try with_reducible rfl
     simp only [sA, sB, sC]
     refine tk 7 84 hHeld ?_
     simp only [sA, sB, sC]
     refine tk 8 85 hHeld ?_
     simp only [sA, sB, sC]
     refine tk 9 86 hHeld ?_
     simp only [sA, sB, sC]
     refine tk2 10 87 (v := ?_) ?_ hHeld ?_
     rotate_left
     ·intro w hSw
      have y3 : w.cell? ⟨x.gu, 3, none⟩ = some (.map (some x.mb)) := qB hSw.box rfl
      go_simp
      try with_reducible rfl
     simp only [sA, sB, sC]
     refine tk 11 88 hHeld ?_
     simp only [sA, sB, sC]
     refine tk2 12 89 (v := ?_) ?_ hHeld ?_
     rotate_left
     ·intro w hSw
      have yl := hSw.s0.lb.at1 hk2 hk1
      go_simp
      try with_reducible rfl
     simp only [sA, sB, sC]
     refine tk2 13 90 (v := ?_) ?_ hHeld ?_
     rotate_left
     ·intro w hSw
      have hw3 : ((kk : Nat) : Int) < (its.length : Int) + 1 := by omega
      go_simp
      try with_reducible rfl
     simp only [sA, sB, sC]
     refine tk2 14 91 (v := ?_) ?_ hHeld ?_
     rotate_left
     ·intro w hSw
      have yp : w.cell? ⟨x.gp, kk, none⟩ = some (.int .i64 z) := by obtain ⟨cs, k1, _, _, k4⟩ := hSw.s0.pl; rw [<- hz]; exact qB k1 (k4 kk (by omega))
      go_simp
      try with_reducible rfl
     simp only [sA, sB, sC]
     refine tk 15 92 hHeld ?_
     simp only [sA, sB, sC]
     refine wpAnyH_ready (rs := [1, 16]) (by kernel_rfl) (by simp) ?_
     refine AllReadyH.cons rfl (fun K hK => ?_) (AllReadyH.cons rfl (fun K hK => ?_) AllReadyH.nil)
     ·have xl : V0.cell? ⟨w.heap.size + 1 + 1, 1, none⟩ = some (.slice sa j sc) := qB HP0.out.ob rfl
      go_simp
      refine hK.out _ _ hHeld (fun hHeld => ?_)
      clear hK K xl
      refine wr1 16 fun K hK => ?_
      go_simp
      generalize hWn : World.alloc V0 _ = V1
      have hbl1 : Below V0.heap.size V0 V1 := by rw [<- hWn]; exact qE _ _
      have HP1 := Lib.hid (HP0.out.go hbl1)
      have HBN : Hid (V1.heap[V0.heap.size]? = some (.cells #[.string ⟨nm.toArray⟩, .int .i64 z] 81 (0, 0))) := by unfold Hid; rw [<- hWn]; exact qK V0 _ _
      refine hK.out _ _ HP1.out.ws (fun hHeld => ?_)
      clear hK K hWn hbl1 HP0
      refine wr1 17 fun K hK => ?_
      obtain ⟨ta, tc, W3, happ, hw3, ⟨q1, q2, q3⟩, hp4⟩ := HP1.out.app ⟨nm, z⟩ V0.heap.size HBN.out (by rw [HLN.out]; omega)
      have HA := Lib.hid happ
      rw [HLN.out] at HA hp4
      have HP4 := Lib.hid hp4
      clear happ hp4 HP1 HBN
      refine qAE (by rfl) 94 (by rfl) _ _ _ _ (by rfl) _ _ (by rfl) (by rfl) HA.out ?_
      simp only [sA, sB, sC]
      refine hK.out _ _ hw3 (fun hHeld => ?_)
      clear hK K HA
      refine tk 18 95 hHeld ?_
      simp only [sA, sB, sC]
      refine wr1 19 fun K hK => ?_
      go_simp
      refine hK.out _ _ HP4.out.ws (fun _ => ?_)
      clear hK K q1 q2 hHeld hw3
      refine wpAnyH_done (by kernel_rfl) ?_ _
      refine NoPanic.normal ?_
      rw [<- HTK.out] at HP4
      go_wp2_with fail
      exact ⟨⟨j + 1, ta, tc, by omega, by go_num, HP4⟩, by simp [intOf]; omega⟩
     ·go_simp
      generalize hWn : World.alloc V0 _ = V1
      have hbl1 : Below V0.heap.size V0 V1 := by rw [<- hWn]; exact qE _ _
      have HP1 := Lib.hid (HP0.out.go hbl1)
      have HBN : Hid (V1.heap[V0.heap.size]? = some (.cells #[.string ⟨nm.toArray⟩, .int .i64 z] 81 (0, 0))) := by unfold Hid; rw [<- hWn]; exact qK V0 _ _
      refine hK.out _ _ HP1.out.ws (fun hHeld => ?_)
      clear hK K hWn hbl1 HP0
      refine wr1 1 fun K hK => ?_
      have xl : V1.cell? ⟨w.heap.size + 1 + 1, 1, none⟩ = some (.slice sa j sc) := qB HP1.out.ob rfl
      go_simp
      refine hK.out _ _ hHeld (fun hHeld => ?_)
      clear hK K xl
      refine wr1 17 fun K hK => ?_
      obtain ⟨ta, tc, W3, happ, hw3, ⟨q1, q2, q3⟩, hp4⟩ := HP1.out.app ⟨nm, z⟩ V0.heap.size HBN.out (by rw [HLN.out]; omega)
      have HA := Lib.hid happ
      rw [HLN.out] at HA hp4
      have HP4 := Lib.hid hp4
      clear happ hp4 HP1 HBN
      refine qAE (by rfl) 94 (by rfl) _ _ _ _ (by rfl) _ _ (by rfl) (by rfl) HA.out ?_
      simp only [sA, sB, sC]
      refine hK.out _ _ hw3 (fun hHeld => ?_)
      clear hK K HA
      refine tk 18 95 hHeld ?_
      simp only [sA, sB, sC]
      refine wr1 19 fun K hK => ?_
      go_simp
      refine hK.out _ _ HP4.out.ws (fun _ => ?_)
      clear hK K q1 q2 hHeld hw3
      refine wpAnyH_done (by kernel_rfl) ?_ _
      refine NoPanic.normal ?_
      rw [<- HTK.out] at HP4
      go_wp2_with fail
      exact ⟨⟨j + 1, ta, tc, by omega, by go_num, HP4⟩, by simp [intOf]; omega⟩
    ·obtain rfl : j = x.labs.length := by omega
     have hj' : ¬ ((x.labs.length : Nat) : Int) < x.labs.length := by omega
     have hP := HPK.out
     rw [show (qCS ⟨x.labs, its, x.firsts⟩ x.ps).take x.labs.length = qCS ⟨x.labs, its, x.firsts⟩ x.ps from List.take_of_length_le (by simp [qCS])] at hP
     obtain ⟨va, vc, hrv⟩ := qG hP.ws.rel
     subst hrv
     have d7 : wr.cell? ⟨x.gu, 7, none⟩ = some (.slice va ra.length vc) := qB hP.ws.box rfl
     have zu := qC hP.ws.box
     have o0 : wr.cell? ⟨w.heap.size + 1 + 1, 0, none⟩ = some (.slice ca cd.length cc) := qB hP.ob rfl
     have o1 : wr.cell? ⟨w.heap.size + 1 + 1, 1, none⟩ = some (.slice sa x.labs.length sc) := qB hP.ob rfl
     have o2 : wr.cell? ⟨w.heap.size + 1 + 1, 2, none⟩ = some (.slice none 0 0) := qB hP.ob rfl
     have fo2 : wr.frozen? ⟨w.heap.size + 1 + 1, 2, none⟩ = false := qD hP.ob
     have zo := qC hP.ob
     have q0 : wr.cell? ⟨w.heap.size, 0, none⟩ = some (.slice none 0 0) := qB hP.r0 rfl
     have q1 : wr.cell? ⟨w.heap.size, 1, none⟩ = some (.slice none 0 0) := qB hP.r0 rfl
     have q2 : wr.cell? ⟨w.heap.size, 2, none⟩ = some (.slice none 0 0) := qB hP.r0 rfl
     have g0 : wr.frozen? ⟨w.heap.size, 0, none⟩ = false := qD hP.r0
     have g1 : wr.frozen? ⟨w.heap.size, 1, none⟩ = false := qD hP.r0
     have g2 : wr.frozen? ⟨w.heap.size, 2, none⟩ = false := qD hP.r0
     obtain ⟨⟨t0, t1⟩, s0, s1⟩ := qo hP.r1
     have HP := Lib.hid hP
     clear hP HPK
     go_wp2_with fail
     refine bodyPost_ret (v := .tuple #[.agg #[.slice ca cd.length cc, .slice sa x.labs.length sc, .slice va ra.length vc], .agg #[.int .i64 0, .int .i64 0]]) (by simp [results, Tryz.results74, go_sem, q0, q1, q2, t0, t1]) rfl ⟨ca, cd.length, cc, sa, x.labs.length, sc, va, ra.length, vc, rfl, ?_⟩
     refine HP.out.fin ?_ ?_ (by unfold maxLen; omega) (by unfold maxLen; omega)
     ·have b1 : Below w.heap.size wr (wr.setCell ⟨w.heap.size + 1 + 1, 2, none⟩ (.slice va ra.length vc)) := (Below.refl _ _).setCell (by show w.heap.size <= w.heap.size + 1 + 1; omega) _
      exact ((((b1.setCell (Nat.le_refl _) _).setCell (Nat.le_refl _) _).setCell (Nat.le_refl _) _).setCell (Nat.le_succ _) _).setCell (Nat.le_succ _) _
     ·intro i _ h0 h1 h2
      rw [Below.heap_setCell _ _ _ _ h1, Below.heap_setCell _ _ _ _ h1, Below.heap_setCell _ _ _ _ h0, Below.heap_setCell _ _ _ _ h0, Below.heap_setCell _ _ _ _ h0, Below.heap_setCell _ _ _ _ h2]
end Go.Proofs.YtgjmbjahgcndnaaGreatDoor
