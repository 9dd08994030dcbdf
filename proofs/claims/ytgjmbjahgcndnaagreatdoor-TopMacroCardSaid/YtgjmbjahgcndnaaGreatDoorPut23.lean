import Derived.Test.YtgjmbjahgcndnaaGreatDoorPut22
set_option maxHeartbeats 8000000
set_option maxRecDepth 100000
namespace Go.Proofs.YtgjmbjahgcndnaaGreatDoor.Li
open Go.RowKit Go.Maps Go.MapKept
theorem qDO {P : Program} {w : World} {ops : Array Oper} {rest : List Oper} {o : Oper} {a : Act} {Q : Exit -> Act -> World -> Prop} (hgd : o.guard = none) (d s : Operand) (dT sT : TypeId)
  (ho : o.op = .call { callee := .builtin .copy, args := #[d, s], argTypes := #[dT, sT] }) (elem : TypeId) (hu : P.underlying dT = some (.slice elem)) (hsz : (P.info? elem).map (·.size) = some 1)
  (g off dLen dCap : Nat) (ad : Addr) (sLen sCap : Nat) (hd : a.eval d = .slice (some ⟨g, off, none⟩) dLen dCap) (hs : a.eval s = .slice (some ad) sLen sCap)
  (cur : Array Value) (t : TypeId) (hg : w.heap[g]? = some (.cells cur t (0, 0))) (cs : List Value) (hn : cs.length = Nat.min sLen dLen)
  (hsrc : ∀ j v, cs[j]? = some v -> w.cell? (ad.add j) = some v) (hfit : off + cs.length <= cur.size) (h1 : ∀ v ∈ cs, v.oneCell' = true)
  (h : ∀ w', Hid (w'.heap[g]? = some (.cells (splice cur.toList off cs).toArray t (0, 0))) -> Hid (w.grownBy w' (some g)) -> wpList P ops Q rest (a.put o.dst (goInt cs.length)) w') : wpList P ops Q (o :: rest) a w := by
 refine wpList_copy_own hgd d s dT sT ho elem hu hsz g off dLen dCap ad sLen sCap hd hs cur t hg cs hn hsrc hfit h1 ?_
 exact h _ (setRow_heap w g cur _ t _ hg) ⟨rfl, rfl, rfl, by simp, fun k _ hk => setRow_other w g k _ (fun e => hk (by rw [e]))⟩
theorem qGi {α : Type} (L : List α) (off n : Nat) (cs : List α) (h : off + cs.length <= n) (hn : n <= L.length) : (splice L off cs).take n = splice (L.take n) off cs := by
 unfold splice
 rw [List.take_append, List.take_append, List.take_take, List.take_take, List.length_take, List.drop_take]
 have e1 : min n off = off := by omega
 have e2 : min off n = off := by omega
 have e3 : min off L.length = off := by omega
 rw [e1, e2, e3, List.take_of_length_le (l := cs) (by omega), Nat.sub_sub]
theorem qIa (b : List UInt8) (fr sz : Nat) (n : Int) (h : fr + sz <= b.length) : splice (qh b) fr ((List.range sz).map fun i => .int .u8 (Oi.qAe (fun i => byF b (fr + i)) 0 sz n i)) = qh (putL b fr sz n) := by
 have hlb : (qh b).length = b.length := by simp [qh]
 refine List.ext_getElem? fun i => ?_
 unfold splice
 simp only [List.length_map, List.length_range]
 by_cases h1 : i < fr
 ·rw [List.getElem?_append_left (by simp [hlb]; omega), List.getElem?_take_of_lt h1]
  simp only [qh, List.getElem?_map, putL, List.getElem?_mapIdx]
  have hi : i < b.length := by omega
  rw [List.getElem?_eq_getElem hi]
  simp only [Option.map_some]
  rw [if_neg (by omega)]
 ·rw [List.getElem?_append_right (by simp [hlb]; omega)]
  have hm : (List.take fr (qh b)).length = fr := by simp [hlb]; omega
  rw [hm]
  by_cases h2 : i < fr + sz
  ·rw [List.getElem?_append_left (by simp; omega)]
   have hi : i < b.length := by omega
   rw [List.getElem?_map, List.getElem?_range (by omega)]
   simp only [qh, List.getElem?_map, putL, List.getElem?_mapIdx, List.getElem?_eq_getElem hi, Option.map_some]
   rw [if_pos (by omega), qBO]
   unfold Oi.qAe
   rw [if_pos (by omega)]
   congr 4
   have : (8 * ((sz : Int) - 1 - (((i - fr : Nat) : Int) - 0))).toNat = (8 * ((sz : Int) - 1 - ((i : Int) - (fr : Int)))).toNat := by omega
   rw [this]
  ·rw [List.getElem?_append_right (by simp; omega)]
   simp only [List.length_map, List.length_range, List.getElem?_drop]
   rw [show fr + sz + (i - fr - sz) = i by omega]
   simp only [qh, List.getElem?_map, putL, List.getElem?_mapIdx]
   by_cases hi : i < b.length
   ·rw [List.getElem?_eq_getElem hi]
    simp only [Option.map_some]
    rw [if_neg (by omega)]
   ·rw [List.getElem?_eq_none (by omega)]
    rfl
theorem put_src {w : World} {h sz : Nat} {cs : List Value} {f : Nat -> Value} (hcs : cs = (List.range sz).map f) (hc : ∀ i, i < sz -> w.cell? ⟨h, i, none⟩ = some (f i)) : ∀ j v, cs[j]? = some v -> w.cell? ((⟨h, 0, none⟩ : Addr).add j) = some v := by
 intro j v hv
 rw [hcs, List.getElem?_map] at hv
 by_cases hj : j < sz
 ·rw [List.getElem?_range hj] at hv
  rw [qAS, Nat.zero_add, hc j hj]
  simpa using hv
 ·rw [List.getElem?_eq_none (by simpa using hj)] at hv
  simp at hv
theorem asked_x6 {s : List Sy} {A p n x : Int} {r : Re} (h : qCU s A r n x) (hp : (if r.name = [] then A else qk r.name s) = p) (h0 : p < 0) : x = 6 := by
 subst hp
 rcases h with h | h | h
 ·exact h.1
 ·exact absurd h0 h.2.1
 ·exact absurd h0 h.2.1
theorem asked_x3 {s : List Sy} {A p n x : Int} {r : Re} (h : qCU s A r n x) (hp : (if r.name = [] then A else qk r.name s) = p) (h0 : ¬ p < 0) (h1 : r.size = 2 /\ (65535 < wrap32 (p + r.add) \/ wrap32 (p + r.add) < -32768)) : x = 3 := by
 subst hp
 rcases h with h | h | h
 ·exact absurd h.2 h0
 ·exact h.1
 ·exact absurd h1 h.2.2.1
theorem asked_x0 {s : List Sy} {A p n x : Int} {r : Re} (h : qCU s A r n x) (hp : (if r.name = [] then A else qk r.name s) = p) (h0 : ¬ p < 0) (h1 : ¬ (r.size = 2 /\ (65535 < wrap32 (p + r.add) \/ wrap32 (p + r.add) < -32768))) : x = 0 /\ n = wrap32 (p + r.add) := by
 subst hp
 rcases h with h | h | h
 ·exact absurd h.2 h0
 ·exact absurd h.2.2 h1
 ·exact ⟨h.1, h.2.2.2⟩
theorem cur_byte {cur : Array Value} {b : List UInt8} (h : cur.toList.take b.length = qh b) {i : Nat} (hi : i < b.length) : cur[i]? = some (.int .u8 (byF b i)) := by
 have h2 := congrArg (fun l => l[i]?) h
 simp only [List.getElem?_take_of_lt hi] at h2
 rw [<- Array.getElem?_toList, h2]
 simp [qh, byF, List.getD, hi]
theorem qG7 {l : List UInt8} (h : qL l = true) : l.length <= 100 := by
 unfold qL at h
 cases l with
 | nil => simp
 | cons c r => simp at h; simp; omega
section
variable {w1 W W' : World} {base : Int} {b : List UInt8} {s : List Sy} {sv : Value} {mb c1 c2 g n cap : Nat} {D : DataW Unit}
theorem LP.cur (h : LP w1 W base b s (.slice (some ⟨g, 0, none⟩) n cap) sv mb c1 c2 D) : ∃ cur : Array Value, n = b.length /\ W.heap[g]? = some (.cells cur 5 (0, 0)) /\ b.length <= cur.size /\ b.length <= cap /\ cur.toList.take b.length = qh b /\ w1.heap.size < g := by
 have hr := h.lo.by'.1.2
 rcases hr with ⟨h0, _⟩ | ⟨g', cap', cur, h0, hb, hg, h1, h2, h3, h4⟩
 ·cases h0
 ·cases h0
  refine ⟨cur, rfl, hg, by omega, h1, by simpa using h4, by omega⟩
theorem LP.copied (h : LP w1 W base b s (.slice (some ⟨g, 0, none⟩) n cap) sv mb c1 c2 D) {cur : Array Value} (hc : W.heap[g]? = some (.cells cur 5 (0, 0))) {fr sz : Nat} {x : Int} (hfit : fr + sz <= b.length) (hg : W.grownBy W' (some g))
  (hn : W'.heap[g]? = some (.cells (splice cur.toList fr ((List.range sz).map fun i => .int .u8 (Oi.qAe (fun i => byF b (fr + i)) 0 sz x i))).toArray 5 (0, 0))) :
  qi W W' /\ LP w1 W' base (putL b fr sz x) s (.slice (some ⟨g, 0, none⟩) n cap) sv mb c1 c2 D := by
 obtain ⟨cur', hnb, hc', hz1, hz2, ht, hgf⟩ := h.cur
 rw [hc] at hc'
 injection hc' with hc'
 injection hc' with hc'
 subst hc'
 have hz := h.lo.size
 have hne : ∀ {p : Nat} {c : Array Value} {t : TypeId} {f : Nat × Nat}, W.heap[p]? = some (.cells c t f) -> t ≠ 5 -> some p ≠ some g := by
  intro p c t f hp ht e
  injection e with e
  subst e
  rw [hc] at hp
  injection hp with hp
  injection hp with _ h2
  exact ht h2.symm
 have hkeep : ∀ {q : Nat} {c : Array Value} {t : TypeId} {f : Nat × Nat}, W.heap[q]? = some (.cells c t f) -> t ≠ 5 -> W'.heap[q]? = some (.cells c t f) := fun hb h5 => by
  rw [hg.block _ (Array.getElem?_eq_some_iff.1 hb).1 (hne hb h5)]; exact hb
 have hmg : some mb ≠ some g := by
  have := qDw h.lo.by'.1 h.mp
  simpa [Value.ownBlock] using this
 have hsy : W'.ownsRow (w1.heap.size + 1) 81 2 sv s.length (qT s) := by
  refine h.lo.sy.kept hg ?_
  rcases h.lo.sy.2 with ⟨h0, _⟩ | ⟨g', cap', cur', h0, _, hgb, _⟩
  ·exact .inl (by rw [h0]; rfl)
  ·exact .inr (by rw [h0]; exact hne hgb (by decide))
 have hrow : W'.ownsRow (w1.heap.size + 1) 5 1 (.slice (some ⟨g, 0, none⟩) n cap) (putL b fr sz x).length (qh (putL b fr sz x)) := by
  have hr := h.lo.by'.1.2
  rcases hr with ⟨h0, _⟩ | ⟨g', cap', cur', h0, hb, hgg, h1, h2, h3, h4⟩
  ·cases h0
  ·cases h0
   refine ⟨by simp [qh], .inr ⟨g, cap, _, by rw [qDl], hb, hn, by rw [qDl]; exact h1, h2, ?_, ?_⟩⟩
   ·rw [List.size_toArray, length_splice _ _ _ (by simp; omega)]
    rw [hc] at hgg
    injection hgg with hgg
    injection hgg with hgg
    rw [Array.length_toList, hgg]
    exact h3
   ·rw [qDl, Nat.mul_one, qGi _ _ _ _ (by simp; omega) (by simp; omega), ht, qIa _ _ _ _ hfit]
 exact ⟨⟨hg.size, fun q c t f hb h5 _ _ => hkeep hb h5⟩, ⟨h.lo.bel.grown hg (by omega) (fun j hj => by cases hj; omega), hkeep h.lo.box (by decide), ⟨hrow, Nat.le_trans h.lo.by'.2 hg.size⟩, hsy⟩, h.mp.kept hg hmg, h.pm, hkeep h.q1 (by decide), hkeep h.q2 (by decide), h.ne⟩
end
def Told (w1 W : World) (base A : Int) (b : List UInt8) (s : List Sy) (bv sv : Value) (mb c1 c2 : Nat) (D : DataW Unit) (o : Ob) (e : Ending) (W' : World) : Prop :=
 qi W W' /\ Below w1.heap.size w1 W' /\ ∃ x, e = .returned (.int .i64 x) /\ ((x ≠ 0 /\ qAg s base A b o.rels = .error x) \/ (x = 0 /\ ∃ b', b'.length = b.length /\ qAg s base A b o.rels = .ok b' /\ LP w1 W' base b' s bv sv mb c1 c2 D))
theorem told_err {w1 W W' : World} {base A : Int} {b b' : List UInt8} {s : List Sy} {bv sv : Value} {mb c1 c2 : Nat} {D : DataW Unit} {o : Ob} {x : Int} (hk : qi W W') (hb : Below w1.heap.size w1 W') (hx : x ≠ 0) {j : Nat} (hj : j < o.rels.length)
  (hE : qAg s base A b o.rels = qAg s base A b' (o.rels.drop j)) (h : qB9 s base A b' o.rels[j] = .error x) : Told w1 W base A b s bv sv mb c1 c2 D o (.returned (.int .i64 x)) W' :=
 ⟨hk, hb, x, rfl, .inl ⟨hx, by rw [hE, qEU hj, h]⟩⟩
theorem qFA (o : Ob) (c y r : Value) (A base : Int) (b : List UInt8) (s : List Sy) (bv sv : Value) (mb c1 c2 : Nat) (D : DataW Unit) (w1 W : World) (hp : LP w1 W base b s bv sv mb c1 c2 D) (ho : ObIn w1 c y r o) (hw : qAD qL o = 0)
  (hb0 : 0 <= base) (hAb : base <= A) (hA2 : A <= 2000000) (hfit : A - base + o.code.length <= b.length) (hbl : b.length <= 2000000) :
  Calls Tryz.prog 62 #[.agg #[c, y, r], .int .i64 A, .pointer (some ⟨c2, 0, none⟩), .pointer (some ⟨c1, 0, none⟩)] W fun e W' => Told w1 W base A b s bv sv mb c1 c2 D o e W' := by
 have HIN := Lib.hid ho
 obtain ⟨q1, q2, rfl, hcl, q3⟩ := id ho.1
 obtain ⟨q4, q5, rfl, q6⟩ := id ho.2.1
 obtain ⟨q7, q8, rfl, q9⟩ := id ho.2.2
 obtain ⟨hf1, hf2, hf3⟩ := qBk hw
 have HRR := Lib.hid (qGy hw)
 have HFIT := Lib.hid hfit
 obtain ⟨V, hV⟩ : ∃ V, V = W.alloc (.cells #[.slice q1 o.code.length q2, .slice q4 o.syms.length q5, .slice q7 o.rels.length q8] 49) := ⟨_, rfl⟩
 have HP0 := Lib.hid (hp.go (W' := V) (by rw [hV]; exact qE _ _))
 have HK0 := Lib.hid (qi.of (W := W) (W' := V) (by rw [hV]; exact qE _ _))
 have HOB : Hid (V.heap[W.heap.size]? = some (.cells #[.slice q1 o.code.length q2, .slice q4 o.syms.length q5, .slice q7 o.rels.length q8] 49 (0, 0))) := by unfold Hid; rw [hV]; exact qK _ _ _
 have g1 := qB (i := 2) HOB.out rfl
 have HV := Lib.hid hV
 clear q3 q6 q9 ho hw hp hcl hV hfit
 go_enter Tryz.func62, Tryz.ntmps62
 go_wp2_with fail
 rw [<- HV.out]
 clear HV
 go_loopw [16] (fun i X => ∃ (j : Nat) (b' : List UInt8), j <= o.rels.length /\ i = .int .i64 j /\ Hid (b'.length = b.length) /\ Hid (qi W X) /\ Hid (LP w1 X base b' s bv sv mb c1 c2 D) /\ Hid (qAg s base A b o.rels = qAg s base A b' (o.rels.drop j))) (fun i _ => o.rels.length - (intOf i).toNat)
 case atStart => exact ⟨0, b, Nat.zero_le _, rfl, rfl, HK0, HP0, rfl⟩
 case round =>
  obtain ⟨j, b', hj, rfl, HBL, HK, HP, HE⟩ := hrel
  clear HK0 HP0 g1 HOB
  by_cases hjl : j < o.rels.length
  ·have hj1 : (j : Int) < o.rels.length := by omega
   obtain ⟨ad2, cap2, e2, _, hrc⟩ := HIN.out.2.2
   cases e2
   obtain ⟨rb, ro, hq7, hrb, hrcell⟩ := hrc (by omega)
   subst hq7
   obtain ⟨y0, y1, y2, y3⟩ := hrcell j hjl
   rw [<- HP.out.lo.bel.cell (by exact hrb)] at y0 y1 y2 y3
   have hrbw : rb < wr.heap.size := Nat.lt_of_lt_of_le hrb HP.out.lo.bel.size
   obtain ⟨hz24, hp0, hp1, hpc, hnm⟩ := HRR.out o.rels[j] (List.getElem_mem hjl)
   have hbv : ∃ g n0 cap, bv = .slice (some ⟨g, 0, none⟩) n0 cap := by
    rcases HP.out.lo.by'.1.2 with ⟨_, h0⟩ | ⟨g, cap, cur, h0, _⟩
    ·have := HBL.out
     have := HFIT.out
     exact absurd h0 (by omega)
    ·exact ⟨g, _, cap, h0⟩
   obtain ⟨g, n0, cap, rfl⟩ := hbv
   have HERR := Lib.hid (fun (X : World) (hk : qi W X) (hb : Below w1.heap.size w1 X) (x : Int) (hx : x ≠ 0) (h : qB9 s base A b' o.rels[j] = .error x) => told_err (bv := .slice (some ⟨g, 0, none⟩) n0 cap) (sv := sv) (mb := mb) (c1 := c1) (c2 := c2) (D := D) hk hb hx hjl HE.out h)
   have HOK : Hid (∀ b2, qB9 s base A b' o.rels[j] = .ok b2 -> qAg s base A b o.rels = qAg s base A b2 (o.rels.drop (j + 1))) := fun b2 h => by rw [HE.out, qEU hjl, h]
   have hrnl : o.rels[j].name.length <= maxLen := by
    unfold maxLen
    rcases hnm with h | h
    ·rw [h]; simp
    ·have := qG7 h
     omega
   clear hrcell hrc hnm HE
   generalize o.rels[j] = r at *
   obtain ⟨rp, rz, rn, ra⟩ := r
   simp only at y0 y1 y2 y3 hz24 hp0 hp1 hpc hrnl
   obtain ⟨sz, rfl⟩ : ∃ sz : Nat, rz = sz := ⟨rz.toNat, by omega⟩
   have HASK := Lib.hid (fun (X : World) (hx : LP w1 X base b' s (.slice (some ⟨g, 0, none⟩) n0 cap) sv mb c1 c2 D) => qJ9 ⟨rp, sz, rn, ra⟩ A s mb D X (by omega) hx.mp hx.pm hrnl hz24)
   simp only at HASK
   have HPA := Lib.hid (HP.out.go (qE wr (.cells #[.int .i64 rp, .int .i64 (sz : Int), .string ⟨rn.toArray⟩, .int .i64 ra] 120)))
   have HKA := Lib.hid (HK.out.trans (qi.of (qE wr (.cells #[.int .i64 rp, .int .i64 (sz : Int), .string ⟨rn.toArray⟩, .int .i64 ra] 120))))
   have HBX := Lib.hid (qK wr #[.int .i64 rp, .int .i64 (sz : Int), .string ⟨rn.toArray⟩, .int .i64 ra] 120)
   have m2 := qB (i := 0) HPA.out.q2 rfl
   have m2' := qB (i := 0) HP.out.q2 rfl
   have hzc2 : c2 < wr.heap.size := (Array.getElem?_eq_some_iff.1 HP.out.q2).1
   have hsz6 : sz <= 6 := by omega
   have hsz0 : 0 < sz := by omega
   clear HP HK hrnl hz24
   obtain ⟨p, HPP⟩ : ∃ p, Hid ((if rn = [] then A else qk rn s) = p) := ⟨_, rfl⟩
   by_cases hpn : p < 0
   ·have HD := Lib.hid (fun (X : World) hk hb => HERR.out X hk hb 6 (by decide) (qJM HPP.out hpn))
    clear HERR HOK
    go_wp2_with (first | (go_at_call 63; refine (HASK.out _ HPA.out).mono ?_; rintro e w4 ⟨n, x, rfl, hb4, hask⟩; obtain rfl := asked_x6 hask HPP.out hpn; have HP4 := Lib.hid (HPA.out.go hb4); have HK4 := Lib.hid (HKA.out.trans (qi.of hb4)); have HB4 := Lib.hid ((hb4.block _ (by simp)).trans HBX.out); clear hb4 hask HPA HKA HBX HASK m2) | fail)
    go_ret
    exact HD.out _ HK4.out HP4.out.lo.bel
   ·by_cases hfar : (sz : Int) = 2 /\ (65535 < wrap32 (p + ra) \/ wrap32 (p + ra) < -32768)
    ·have HF := Lib.hid hfar
     clear hfar
     have HD := Lib.hid (fun (X : World) hk hb => HERR.out X hk hb 3 (by decide) (qI5 HPP.out hpn HF.out))
     clear HERR HOK
     go_wp2_with (first | (go_at_call 63; refine (HASK.out _ HPA.out).mono ?_; rintro e w4 ⟨n, x, rfl, hb4, hask⟩; obtain rfl := asked_x3 hask HPP.out hpn HF.out; have HP4 := Lib.hid (HPA.out.go hb4); have HK4 := Lib.hid (HKA.out.trans (qi.of hb4)); have HB4 := Lib.hid ((hb4.block _ (by simp)).trans HBX.out); clear hb4 hask HPA HKA HBX HASK m2) | fail)
     go_ret
     exact HD.out _ HK4.out HP4.out.lo.bel
    ·have HOK2 := Lib.hid (HOK.out _ (qKn HPP.out hpn hfar))
     obtain ⟨nn, hnn⟩ : ∃ nn, nn = wrap32 (p + ra) := ⟨_, rfl⟩
     have HAX := Lib.hid (fun n x (h : qCU s A ⟨rp, sz, rn, ra⟩ n x) => asked_x0 h HPP.out hpn hfar)
     simp only at HAX HOK2
     rw [<- hnn] at HOK2 HAX
     clear hnn HERR HOK HPP hpn hfar
     obtain ⟨fr, hfr⟩ : ∃ fr : Nat, (fr : Int) = A - base + rp := ⟨(A - base + rp).toNat, by omega⟩
     have hfl : fr + sz <= b'.length := by have := HBL.out; have := HFIT.out; omega
     have hbl2 : b'.length <= 2000000 := by have := HBL.out; omega
     rw [<- hfr] at HOK2
     have HFR := Lib.hid hfr
     clear hfr
     go_wp2_with (first | (go_at_call 63; refine (HASK.out _ HPA.out).mono ?_; rintro e w4 ⟨n, x, rfl, hb4, hask⟩; obtain ⟨rfl, rfl⟩ := HAX.out _ _ hask; have HP4 := Lib.hid (HPA.out.go hb4); have HK4 := Lib.hid (HKA.out.trans (qi.of hb4)); have HB4 := Lib.hid ((hb4.block _ (by simp)).trans HBX.out); clear hb4 hask HPA HKA HBX HASK m2) | fail)
     have HPw4 := HP4
     have HKw4 := HK4
     have HBw4 := HB4
     clear HP4 HK4 HB4 HAX
     obtain ⟨cur, hn0', hcur, hcs, hcp, hct, hgf⟩ := HPw4.out.cur
     have HCw4 := Lib.hid hcur
     have HCT := Lib.hid hct
     have HN0 := Lib.hid hn0'
     have HGF := Lib.hid hgf
     have hn02 : n0 <= 2000000 := by omega
     have hfl2 : fr + sz <= n0 := by omega
     have hcp2 : n0 <= cap := by omega
     clear hcur hct hn0' hgf
     have hS1 : w4.heap[c1]? = some (.cells #[.pointer (some ⟨w1.heap.size, 0, none⟩)] 93 (0, 0)) /\ w4.heap[w1.heap.size]? = some (.cells #[.int .i64 base, .slice (some ⟨g, 0, none⟩) n0 cap, sv] 34 (0, 0)) /\ w4.heap[wr.heap.size]? = some (.cells #[.int .i64 rp, .int .i64 (sz : Int), .string ⟨rn.toArray⟩, .int .i64 ra] 120 (0, 0)) := ⟨HPw4.out.q1, HPw4.out.lo.box, HBw4.out⟩
     refine wp_region_noPanic ?_
     refine wp_region_held_drew (S := fun X => X.heap[c1]? = some (.cells #[.pointer (some ⟨w1.heap.size, 0, none⟩)] 93 (0, 0)) /\ X.heap[w1.heap.size]? = some (.cells #[.int .i64 base, .slice (some ⟨g, 0, none⟩) n0 cap, sv] 34 (0, 0)) /\ X.heap[wr.heap.size]? = some (.cells #[.int .i64 rp, .int .i64 (sz : Int), .string ⟨rn.toArray⟩, .int .i64 ra] 120 (0, 0))) (by kernel_rfl) hS1 (fun hHeld => ?_)
     obtain ⟨X1, hV2⟩ : ∃ X, X = w4.drew := ⟨_, rfl⟩
     have hbV : Below w4.heap.size w4 X1 := by rw [hV2]; exact (Below.refl _ _).drew
     have HPX1 := Lib.hid (HPw4.out.go hbV)
     have HKX1 := Lib.hid (HKw4.out.trans (qi.of hbV))
     have HCX1 := Lib.hid ((hbV.block g (Array.getElem?_eq_some_iff.1 HCw4.out).1).trans HCw4.out)
     have HBX1 := Lib.hid ((hbV.block _ (Array.getElem?_eq_some_iff.1 HBw4.out).1).trans HBw4.out)
     rw [<- hV2] at hHeld ⊢
     clear hV2 hbV HPw4 HKw4 HCw4 HBw4 hS1
     refine tk 0 30 hHeld ?_
     simp only [sA, sB, sC]
     refine tk2 1 31 (v := ?_) ?_ hHeld ?_
     rotate_left
     ·intro w hSw
      have x1 := qA (i := 0) hSw.1 rfl
      go_simp
      try with_reducible rfl
     simp only [sA, sB, sC]
     refine tk 2 32 hHeld ?_
     simp only [sA, sB, sC]
     refine tk 3 33 hHeld ?_
     simp only [sA, sB, sC]
     refine tk2 4 34 (v := ?_) ?_ hHeld ?_
     rotate_left
     ·intro w hSw
      have y0 := qA (i := 0) hSw.2.1 rfl
      have y1 := qA (i := 1) hSw.2.1 rfl
      go_simp
      try with_reducible rfl
     simp only [sA, sB, sC]
     refine qAy 5 35 (v := .int .i64 (A - base)) rfl rfl (by kernel_rfl) (by kernel_rfl) (by kernel_rfl) (fun _ _ _ h => h) rfl ?_ hHeld ?_
     ·intro w hSw
      go_simp
      try (have := HFR.out; rw [IntKind.wrap_i64]; first | omega | (congr 2; omega))
     simp only [sA, sB, sC]
     refine tk 6 36 hHeld ?_
     simp only [sA, sB, sC]
     refine tk2 7 37 (v := ?_) ?_ hHeld ?_
     rotate_left
     ·intro w hSw
      have z0 := qA (i := 0) hSw.2.2 rfl
      have z1 := qA (i := 1) hSw.2.2 rfl
      go_simp
      try with_reducible rfl
     simp only [sA, sB, sC]
     refine qAy 8 38 (v := .int .i64 (fr : Int)) rfl rfl (by kernel_rfl) (by kernel_rfl) (by kernel_rfl) (fun _ _ _ h => h) rfl ?_ hHeld ?_
     ·intro w hSw
      go_simp
      try (have := HFR.out; rw [IntKind.wrap_i64]; first | omega | (congr 2; omega))
     simp only [sA, sB, sC]
     refine tk 9 11 hHeld ?_
     simp only [sA, sB, sC]
     refine wpAnyH_done (by kernel_rfl) ?_ _
     refine NoPanic.normal ?_
     clear hHeld
     go_wp2_with fail
     have hS2 : X1.heap[c1]? = some (.cells #[.pointer (some ⟨w1.heap.size, 0, none⟩)] 93 (0, 0)) /\ X1.heap[w1.heap.size]? = some (.cells #[.int .i64 base, .slice (some ⟨g, 0, none⟩) n0 cap, sv] 34 (0, 0)) /\ X1.heap[wr.heap.size]? = some (.cells #[.int .i64 rp, .int .i64 (sz : Int), .string ⟨rn.toArray⟩, .int .i64 ra] 120 (0, 0)) := ⟨HPX1.out.q1, HPX1.out.lo.box, HBX1.out⟩
     refine wp_region_noPanic ?_
     refine wp_region_held_drew (S := fun X => X.heap[c1]? = some (.cells #[.pointer (some ⟨w1.heap.size, 0, none⟩)] 93 (0, 0)) /\ X.heap[w1.heap.size]? = some (.cells #[.int .i64 base, .slice (some ⟨g, 0, none⟩) n0 cap, sv] 34 (0, 0)) /\ X.heap[wr.heap.size]? = some (.cells #[.int .i64 rp, .int .i64 (sz : Int), .string ⟨rn.toArray⟩, .int .i64 ra] 120 (0, 0))) (by kernel_rfl) hS2 (fun hHeld => ?_)
     obtain ⟨X2, hV2⟩ : ∃ X, X = X1.drew := ⟨_, rfl⟩
     have hbV : Below X1.heap.size X1 X2 := by rw [hV2]; exact (Below.refl _ _).drew
     have HPX2 := Lib.hid (HPX1.out.go hbV)
     have HKX2 := Lib.hid (HKX1.out.trans (qi.of hbV))
     have HCX2 := Lib.hid ((hbV.block g (Array.getElem?_eq_some_iff.1 HCX1.out).1).trans HCX1.out)
     have HBX2 := Lib.hid ((hbV.block _ (Array.getElem?_eq_some_iff.1 HBX1.out).1).trans HBX1.out)
     rw [<- hV2] at hHeld ⊢
     clear hV2 hbV HPX1 HKX1 HCX1 HBX1 hS2
     refine tk2 0 39 (v := ?_) ?_ hHeld ?_
     rotate_left
     ·intro w hSw
      have x1 := qA (i := 0) hSw.1 rfl
      go_simp
      try with_reducible rfl
     simp only [sA, sB, sC]
     refine tk 1 40 hHeld ?_
     simp only [sA, sB, sC]
     refine tk 2 41 hHeld ?_
     simp only [sA, sB, sC]
     refine tk2 3 42 (v := ?_) ?_ hHeld ?_
     rotate_left
     ·intro w hSw
      have y0 := qA (i := 0) hSw.2.1 rfl
      have y1 := qA (i := 1) hSw.2.1 rfl
      go_simp
      try with_reducible rfl
     simp only [sA, sB, sC]
     refine tk 4 43 hHeld ?_
     simp only [sA, sB, sC]
     refine tk 5 44 hHeld ?_
     simp only [sA, sB, sC]
     refine tk 6 45 hHeld ?_
     simp only [sA, sB, sC]
     refine tk2 7 46 (v := ?_) ?_ hHeld ?_
     rotate_left
     ·intro w hSw
      have z0 := qA (i := 0) hSw.2.2 rfl
      have z1 := qA (i := 1) hSw.2.2 rfl
      go_simp
      try with_reducible rfl
     simp only [sA, sB, sC]
     refine qAy 8 47 (v := .int .i64 ((fr + sz : Nat) : Int)) rfl rfl (by kernel_rfl) (by kernel_rfl) (by kernel_rfl) (fun _ _ _ h => h) rfl ?_ hHeld ?_
     ·intro w hSw
      go_simp
      try (have := HFR.out; rw [IntKind.wrap_i64]; first | omega | (congr 2; omega))
     simp only [sA, sB, sC]
     refine qAy 9 48 (v := .slice (some ⟨g, fr, none⟩) sz (cap - fr)) rfl rfl (by kernel_rfl) (by kernel_rfl) (by kernel_rfl) (fun _ _ _ h => h) rfl ?_ hHeld ?_
     ·intro w hSw
      go_simp
      rw [if_pos (by omega), if_pos (by omega), if_neg (by omega), show ((fr : Int) + (sz : Int)).toNat - fr = sz by omega]
     simp only [sA, sB, sC]
     refine tk 10 12 hHeld ?_
     simp only [sA, sB, sC]
     refine wpAnyH_done (by kernel_rfl) ?_ _
     refine NoPanic.normal ?_
     clear hHeld
     have HPUT := Lib.hid (Oi.qGe (some ⟨g, fr, none⟩) sz (cap - fr) (fun i => byF b' (fr + i)) 0 sz n X2 (by omega) (fun _ => ⟨g, fr, rfl, fun i hi => qB HCX2.out (cur_byte HCT.out (by omega))⟩) (by omega) (by omega) (by decide) (by decide))
     have z1 : X2.cell? ⟨wr.heap.size, 1, none⟩ = some (.int .i64 (sz : Int)) := qB HBX2.out rfl
     have hgz : g < X2.heap.size := (Array.getElem?_eq_some_iff.1 HCX2.out).1
     obtain ⟨cs, hcs'⟩ : ∃ cs, cs = (List.range sz).map (fun i => (Value.int .u8 (Oi.qAe (fun i => byF b' (fr + i)) 0 sz n i))) := ⟨_, rfl⟩
     have HCS := Lib.hid hcs'
     have hcsl : cs.length = sz := by rw [hcs']; simp
     have hone : ∀ v ∈ cs, v.oneCell' = true := by
      intro v hv
      rw [hcs'] at hv
      obtain ⟨i, _, rfl⟩ := List.mem_map.1 hv
      rfl
     clear hcs'
     go_wp2_with (first | (go_at_call 64; refine HPUT.out.mono ?_; rintro e w6 ⟨rfl, hb6, hz6, hc6⟩; have HP6 := Lib.hid (HPX2.out.go hb6); have HK6 := Lib.hid (HKX2.out.trans (qi.of hb6)); have HC6 := Lib.hid ((hb6.block g (Array.getElem?_eq_some_iff.1 HCX2.out).1).trans HCX2.out); have HS6 := Lib.hid (put_src HCS.out hc6); clear hb6 hc6) | (refine qDO rfl _ _ 31 31 rfl 5 Tryz.underlying31 Oi.size5 g fr sz (cap - fr) ⟨X2.heap.size, 0, none⟩ sz sz rfl rfl cur 5 HC6.out cs (by rw [hcsl]; exact (Nat.min_self sz).symm) HS6.out (by omega) hone ?_; intro w7 HR7 HG7) | fail)
     have hcp7 := HP6.out.copied HC6.out hfl HG7.out (x := n) (by rw [<- HCS.out]; exact HR7.out)
     have HK7 := Lib.hid (HK6.out.trans hcp7.1)
     have HP7 := Lib.hid hcp7.2
     clear hcp7 HP6 HK6 HC6 HS6 HR7 HG7
     exact ⟨⟨j + 1, _, by omega, by go_num, by unfold Hid; rw [qDl]; exact HBL.out, HK7, HP7, HOK2⟩, by simp [intOf]; omega⟩
  ·have hj1 : ¬ (j : Int) < o.rels.length := by omega
   have HAE : Hid (qAg s base A b o.rels = .ok b') := by unfold Hid; rw [HE.out, List.drop_eq_nil_of_le (by omega)]; rfl
   go_wp2_with fail
   go_ret
   exact ⟨HK.out, HP.out.lo.bel, 0, rfl, .inr ⟨rfl, b', HBL.out, HAE.out, HP.out⟩⟩
theorem qLO : ∀ args w, (callFunc 38 args).run Tryz.prog w = .ok (.enter 38 args) w := enters_of Tryz.func38 (by kernel_rfl) rfl
theorem ent_lay : ∀ args w, (callFunc 61 args).run Tryz.prog w = .ok (.enter 61 args) w := enters_of Tryz.func61 (by kernel_rfl) rfl
theorem ent_tell : ∀ args w, (callFunc 62 args).run Tryz.prog w = .ok (.enter 62 args) w := enters_of Tryz.func62 (by kernel_rfl) rfl
theorem qLK (l : List Ob) (v : Value) (base : Int) (w : World) (hv : OObs w v l) (h0 : 0 <= base) (h1 : base <= 1048576) (hl : l.length <= 4) (hnl : ∀ o, o ∈ l -> ∀ x, x ∈ o.syms -> x.name.length <= maxLen) :
  Calls Tryz.prog 41 #[v, .int .i64 base, .func (.func 38) #[] #[]] w fun e W' => Below w.heap.size w W' /\ ∃ x a, e = .returned (.agg #[.int .i64 x, .int .i64 a]) /\ ((x = 0 /\ a = 0 /\ qAF qL 0 l = none) \/ (x ≠ 0 /\ ∃ k : Nat, a = k /\ qAF qL 0 l = some (x, k))) := by
 refine (qFK l v base w w 38 #[] qLO (fun k X => Below w.heap.size w X /\ qAF qL 0 l = qAF qL k (l.drop k)) (fun k x => qAF qL 0 l = some (x, k)) hv (by omega) (by omega) hl (fun k X h => h.1) (fun k X X' h hb => ⟨h.1.trans (hb.mono h.1.size), h.2⟩) (fun k X q c f h hq _ i x => ⟨h.1.setCell hq _, h.2⟩) ?_ ⟨Below.refl _ _, rfl⟩).mono ?_
 ·intro k hk c s r X hX ho
  have e : (#[.agg #[c, s, r], .int .i64 (upW (endW base (l.take k)))] ++ #[] : Array Value) = #[.agg #[c, s, r], .int .i64 (upW (endW base (l.take k)))] := by simp
  rw [e]
  refine (qJN l[k] c s r _ X (ho.below hX.1 (Nat.le_refl _)) (hnl _ (List.getElem_mem hk))).mono ?_
  rintro e X' ⟨rfl, hb⟩
  have hB : Below w.heap.size w X' := hX.1.trans (hb.mono hX.1.size)
  refine ⟨qi.of hb, hB, _, rfl, fun hz => ⟨hB, ?_⟩, fun hz => ?_⟩
  ·rw [hX.2, qET hk, if_pos hz]
  ·show qAF qL 0 l = _
   rw [hX.2, qET hk, if_neg hz]
 ·rintro e W' ⟨_, hB, x, a, rfl, h⟩
  refine ⟨hB, x, a, rfl, ?_⟩
  rcases h with ⟨hx, ha, _, hw⟩ | ⟨hx, k, hk, ha, hw⟩
  ·refine .inl ⟨hx, ha, ?_⟩
   rw [hw, List.drop_eq_nil_of_le (Nat.le_refl _)]
   rfl
  ·exact .inr ⟨hx, k, ha, hw⟩
theorem qLJ {l : List Ob} {base : Int} (h0 : 0 <= base) (h1 : base <= 1048576) (hl : l.length <= 4) (hr : ∀ o, o ∈ l -> qAD qL o = 0) (k : Nat) (hk : k < l.length) :
  upW (endW base (l.take k)) = up4 (endL base (l.take k)) /\ base <= endL base (l.take k) /\ endL base l <= 1048576 + 4 * 8003 /\ endL base (l.take (k + 1)) <= endL base l /\ endL base (l.take (k + 1)) = up4 (endL base (l.take k)) + l[k].code.length := by
 have hend : endL base l <= 1048576 + 4 * 8003 := by
  have := qLi l base (fun o ho => (qBk (hr o ho)).1)
  omega
 have hu := qGC l base k
 have hu2 := qGC l base (k + 1)
 have hg := qG2 (l.take k) base
 obtain ⟨_, h3⟩ := qKI (l.take k) base h0 (by omega)
 have hup := qEn (endL base (l.take k))
 have ht := qKe l base k hk
 refine ⟨?_, hg, hend, hu2, ht⟩
 rw [h3]
 unfold upW wrap64
 omega
def I1 (w1 : World) (l : List Ob) (base : Int) (mb c1 c2 k : Nat) (X : World) : Prop :=
 ∃ b s bv sv D, LP w1 X base b s bv sv mb c1 c2 D /\ (b.length : Int) = endL base (l.take k) - base /\ s.length <= 255 * k /\ layL base 0 [] [] (l.zip (qm base l)) = layL base k b s ((l.zip (qm base l)).drop k)
theorem qL6 (l : List Ob) (v : Value) (base : Int) (mb c1 c2 : Nat) (w1 w : World) (hv : OObs w1 v l) (h0 : 0 <= base) (h1 : base <= 1048576) (hl : l.length <= 4) (hnl : ∀ o, o ∈ l -> ∀ x, x ∈ o.syms -> x.name.length <= maxLen) (hr : ∀ o, o ∈ l -> qAD qL o = 0)
  (hI : I1 w1 l base mb c1 c2 0 w) :
  Calls Tryz.prog 41 #[v, .int .i64 base, .func (.func 61) #[] #[.pointer (some ⟨c1, 0, none⟩), .pointer (some ⟨c2, 0, none⟩)]] w fun e W' => qi w W' /\ Below w1.heap.size w1 W' /\ ∃ x a, e = .returned (.agg #[.int .i64 x, .int .i64 a]) /\ ((x = 0 /\ a = 0 /\ I1 w1 l base mb c1 c2 l.length W') \/ (x ≠ 0 /\ ∃ k : Nat, a = k /\ layL base 0 [] [] (l.zip (qm base l)) = .error (x, k))) := by
 refine (qFK l v base w1 w 61 _ ent_lay (I1 w1 l base mb c1 c2) (fun k x => layL base 0 [] [] (l.zip (qm base l)) = .error (x, k)) hv (by omega) (by omega) hl ?_ ?_ ?_ ?_ hI).mono ?_
 ·rintro k X ⟨b, s, bv, sv, D, hp, _⟩
  exact hp.lo.bel
 ·rintro k X X' ⟨b, s, bv, sv, D, hp, h⟩ hb
  exact ⟨b, s, bv, sv, D, hp.go hb, h⟩
 ·rintro k X q c f ⟨b, s, bv, sv, D, hp, h⟩ hq hb i x
  exact ⟨b, s, bv, sv, D, hp.other hb hq (by decide) (by decide) (by decide) (by decide) (by decide) i x, h⟩
 ·rintro k hk c s r X ⟨b, sy, bv, sv, D, hp, hbl, hsl, hE⟩ ho
  obtain ⟨hA, hA1, hA2, hA3, hA4⟩ := qLJ h0 h1 hl hr k hk
  have hup := qEn (endL base (l.take k))
  rw [hA]
  obtain ⟨z, hz⟩ : ∃ z : Nat, (z : Int) = up4 (endL base (l.take k)) - base - b.length := ⟨(up4 (endL base (l.take k)) - base - b.length).toNat, by omega⟩
  refine (qGl l[k] c s r (up4 (endL base (l.take k))) base b sy bv sv mb c1 c2 z D w1 X hp ho (hr _ (List.getElem_mem hk)) (hnl _ (List.getElem_mem hk)) h0 (by omega) (by omega) (by omega)).mono ?_
  rintro e X' ⟨hk', hb', x, rfl, h⟩
  refine ⟨hk', hb', x, rfl, fun hx => ?_, fun hx => ?_⟩
  ·rcases h with ⟨h, _⟩ | ⟨_, s', bv', sv', D', hlen, hadd, hp'⟩
   ·omega
   ·refine ⟨_, s', bv', sv', D', hp', ?_, ?_, ?_⟩
    ·rw [hA4]; simp; omega
    ·have := (qBk (hr _ (List.getElem_mem hk))).2.1
     omega
    ·rw [hE, qLL hk, hadd, <- hz, Int.toNat_natCast]
  ·rcases h with ⟨h, hadd⟩ | ⟨h, _⟩
   ·subst h
    show layL _ _ _ _ _ = _
    rw [hE, qLL hk, hadd]
   ·exact absurd h hx
 ·rintro e W' ⟨hk, hB, x, a, rfl, h⟩
  refine ⟨hk, hB, x, a, rfl, ?_⟩
  rcases h with h | ⟨hx, k, _, ha, hw⟩
  ·exact .inl h
  ·exact .inr ⟨hx, k, ha, hw⟩
def I2 (w1 : World) (l : List Ob) (base : Int) (b : List UInt8) (s : List Sy) (bv sv : Value) (D : DataW Unit) (mb c1 c2 k : Nat) (X : World) : Prop :=
 ∃ c, LP w1 X base c s bv sv mb c1 c2 D /\ c.length = b.length /\ relL s base 0 b (l.zip (qm base l)) = relL s base k c ((l.zip (qm base l)).drop k)
theorem qL4 (l : List Ob) (v : Value) (base : Int) (b : List UInt8) (s : List Sy) (bv sv : Value) (D : DataW Unit) (mb c1 c2 : Nat) (w1 w : World) (hv : OObs w1 v l) (h0 : 0 <= base) (h1 : base <= 1048576) (hl : l.length <= 4) (hr : ∀ o, o ∈ l -> qAD qL o = 0) (hbl : (b.length : Int) = endL base l - base)
  (hI : I2 w1 l base b s bv sv D mb c1 c2 0 w) :
  Calls Tryz.prog 41 #[v, .int .i64 base, .func (.func 62) #[] #[.pointer (some ⟨c2, 0, none⟩), .pointer (some ⟨c1, 0, none⟩)]] w fun e W' => qi w W' /\ Below w1.heap.size w1 W' /\ ∃ x a, e = .returned (.agg #[.int .i64 x, .int .i64 a]) /\ ((x = 0 /\ a = 0 /\ I2 w1 l base b s bv sv D mb c1 c2 l.length W') \/ (x ≠ 0 /\ ∃ k : Nat, a = k /\ relL s base 0 b (l.zip (qm base l)) = .error (x, k))) := by
 refine (qFK l v base w1 w 62 _ ent_tell (I2 w1 l base b s bv sv D mb c1 c2) (fun k x => relL s base 0 b (l.zip (qm base l)) = .error (x, k)) hv (by omega) (by omega) hl ?_ ?_ ?_ ?_ hI).mono ?_
 ·rintro k X ⟨c, hp, _⟩
  exact hp.lo.bel
 ·rintro k X X' ⟨c, hp, h⟩ hb
  exact ⟨c, hp.go hb, h⟩
 ·rintro k X q c f ⟨b, hp, h⟩ hq hb i x
  exact ⟨b, hp.other hb hq (by decide) (by decide) (by decide) (by decide) (by decide) i x, h⟩
 ·rintro k hk cv y r X ⟨c, hp, hcl, hE⟩ ho
  obtain ⟨hA, hA1, hA2, hA3, hA4⟩ := qLJ h0 h1 hl hr k hk
  have hup := qEn (endL base (l.take k))
  rw [hA]
  refine (qFA l[k] cv y r (up4 (endL base (l.take k))) base c s bv sv mb c1 c2 D w1 X hp ho (hr _ (List.getElem_mem hk)) h0 (by omega) (by omega) (by omega) (by omega)).mono ?_
  rintro e X' ⟨hk', hb', x, rfl, h⟩
  refine ⟨hk', hb', x, rfl, fun hx => ?_, fun hx => ?_⟩
  ·rcases h with ⟨h, _⟩ | ⟨_, b', hlen, hadd, hp'⟩
   ·exact absurd hx h
   ·exact ⟨b', hp', hlen.trans hcl, by rw [hE, qKA hk, hadd]⟩
  ·rcases h with ⟨_, hadd⟩ | ⟨h, _⟩
   ·show relL _ _ _ _ _ = _
    rw [hE, qKA hk, hadd]
   ·exact absurd h hx
 ·rintro e W' ⟨hk, hB, x, a, rfl, h⟩
  refine ⟨hk, hB, x, a, rfl, ?_⟩
  rcases h with h | ⟨hx, k, _, ha, hw⟩
  ·exact .inl h
  ·exact .inr ⟨hx, k, ha, hw⟩
theorem qKW (p m : Value) (ad : Addr) (mb c1 c2 : Nat) (hp : p = .pointer (some ad)) (hm : m = .map (some mb)) (w : World) (h1 : w.heap.size = c1) (h2 : w.heap.size + 1 = c2) :
  Calls Tryz.prog 39 #[p, m] w fun e w' => e = .returned (.func (.func 61) #[] #[.pointer (some ⟨c1, 0, none⟩), .pointer (some ⟨c2, 0, none⟩)]) /\ w' = (w.alloc (.cells #[p] 93)).alloc (.cells #[m] 89) := by
 subst h1 h2
 exact qI7 p m ad mb hp hm w
theorem qJA (p m : Value) (ad : Addr) (mb d1 d2 : Nat) (hp : p = .pointer (some ad)) (hm : m = .map (some mb)) (w : World) (h1 : w.heap.size = d1) (h2 : w.heap.size + 1 = d2) :
  Calls Tryz.prog 40 #[p, m] w fun e w' => e = .returned (.func (.func 62) #[] #[.pointer (some ⟨d2, 0, none⟩), .pointer (some ⟨d1, 0, none⟩)]) /\ w' = (w.alloc (.cells #[p] 93)).alloc (.cells #[m] 89) := by
 subst h1 h2
 exact qGW p m ad mb hp hm w
theorem LP.start (wA : World) (base : Int) (a mb c1 c2 : Nat) (ha : wA.heap.size = a) (hm : wA.heap.size + 1 = mb) (h1 : wA.heap.size + 2 = c1) (h2 : wA.heap.size + 3 = c2) :
  LP wA ((((wA.alloc (.cells #[.int .i64 base, .slice none 0 0, .slice none 0 0] 34)).alloc (.map #[] 0)).alloc (.cells #[.pointer (some ⟨a, 0, none⟩)] 93)).alloc (.cells #[.map (some mb)] 89)) base [] [] (.slice none 0 0) (.slice none 0 0) mb c1 c2 (.map []) := by
 subst ha
 have e1 : (wA.alloc (.cells #[.int .i64 base, .slice none 0 0, .slice none 0 0] 34)).heap.size = mb := by rw [<- hm]; simp
 have e2 : ((wA.alloc (.cells #[.int .i64 base, .slice none 0 0, .slice none 0 0] 34)).alloc (.map #[] 0)).heap.size = c1 := by rw [<- h1]; simp
 have e3 : (((wA.alloc (.cells #[.int .i64 base, .slice none 0 0, .slice none 0 0] 34)).alloc (.map #[] 0)).alloc (.cells #[.pointer (some ⟨wA.heap.size, 0, none⟩)] 93)).heap.size = c2 := by rw [<- h2]; simp
 have hlo := (((LO.new wA base).go (qE _ (.map #[] 0))).go (qE _ (.cells #[.pointer (some ⟨wA.heap.size, 0, none⟩)] 93))).go (qE _ (.cells #[.map (some mb)] 89))
 have hmp := ((World.ownsMap_made (H := Unit) (wA.alloc (.cells #[.int .i64 base, .slice none 0 0, .slice none 0 0] 34)) Tryz.prog 9 (plainElem Tryz.prog 3)).alloc (.cells #[.pointer (some ⟨wA.heap.size, 0, none⟩)] 93)).alloc (.cells #[.map (some mb)] 89)
 rw [e1] at hmp
 have hq1 := qK ((wA.alloc (.cells #[.int .i64 base, .slice none 0 0, .slice none 0 0] 34)).alloc (.map #[] 0)) #[.pointer (some ⟨wA.heap.size, 0, none⟩)] 93
 have hq2 := qK (((wA.alloc (.cells #[.int .i64 base, .slice none 0 0, .slice none 0 0] 34)).alloc (.map #[] 0)).alloc (.cells #[.pointer (some ⟨wA.heap.size, 0, none⟩)] 93)) #[.map (some mb)] 89
 rw [e2] at hq1
 rw [e3] at hq2
 exact ⟨hlo, hmp, PM.nil, by rw [(qE _ _).block _ (Array.getElem?_eq_some_iff.1 hq1).1]; exact hq1, hq2, by omega⟩
def LStep (wA : World) (l : List Ob) (base : Int) (mb c1 c2 d1 d2 F k : Nat) (W : World) : Prop :=
 W.heap[F]? = some (.cells #[.func (.func 38) #[] #[], .func (.func 61) #[] #[.pointer (some ⟨c1, 0, none⟩), .pointer (some ⟨c2, 0, none⟩)], .func (.func 62) #[] #[.pointer (some ⟨d2, 0, none⟩), .pointer (some ⟨d1, 0, none⟩)]] 91 (0, 0)) /\ W.heap[d1]? = some (.cells #[.pointer (some ⟨wA.heap.size, 0, none⟩)] 93 (0, 0)) /\ W.heap[d2]? = some (.cells #[.map (some mb)] 89 (0, 0)) /\
 ((k = 0 /\ I1 wA l base mb c1 c2 0 W) \/ (k = 1 /\ qAF qL 0 l = none /\ I1 wA l base mb c1 c2 0 W) \/ (k = 2 /\ qAF qL 0 l = none /\ I1 wA l base mb c1 c2 l.length W) \/
  (k = 3 /\ qAF qL 0 l = none /\ ∃ b s bv sv D, layL base 0 [] [] (l.zip (qm base l)) = .ok (b, s) /\ I2 wA l base b s bv sv D mb d1 d2 l.length W))
theorem LStep.bel {wA : World} {l : List Ob} {base : Int} {mb c1 c2 d1 d2 F k : Nat} {W : World} (h : LStep wA l base mb c1 c2 d1 d2 F k W) : Below wA.heap.size wA W := by
 rcases h.2.2.2 with ⟨_, b, s, bv, sv, D, hp, _⟩ | ⟨_, _, b, s, bv, sv, D, hp, _⟩ | ⟨_, _, b, s, bv, sv, D, hp, _⟩ | ⟨_, _, b, s, bv, sv, D, _, c, hp, _⟩
 ·exact hp.lo.bel
 ·exact hp.lo.bel
 ·exact hp.lo.bel
 ·exact hp.lo.bel
theorem I1.go {wA : World} {l : List Ob} {base : Int} {mb c1 c2 k : Nat} {W W' : World} (h : I1 wA l base mb c1 c2 k W) (hb : Below W.heap.size W W') : I1 wA l base mb c1 c2 k W' := by
 obtain ⟨b, s, bv, sv, D, hp, h⟩ := h
 exact ⟨b, s, bv, sv, D, hp.go hb, h⟩
theorem I2.go {wA : World} {l : List Ob} {base : Int} {b : List UInt8} {s : List Sy} {bv sv : Value} {D : DataW Unit} {mb c1 c2 k : Nat} {W W' : World} (h : I2 wA l base b s bv sv D mb c1 c2 k W) (hb : Below W.heap.size W W') : I2 wA l base b s bv sv D mb c1 c2 k W' := by
 obtain ⟨c, hp, h⟩ := h
 exact ⟨c, hp.go hb, h⟩
theorem I1.done {wA : World} {l : List Ob} {base : Int} {mb c1 c2 d1 d2 : Nat} {W : World} (h : I1 wA l base mb c1 c2 l.length W) (h1 : W.heap[d1]? = some (.cells #[.pointer (some ⟨wA.heap.size, 0, none⟩)] 93 (0, 0))) (h2 : W.heap[d2]? = some (.cells #[.map (some mb)] 89 (0, 0))) :
  ∃ b s bv sv D, layL base 0 [] [] (l.zip (qm base l)) = .ok (b, s) /\ (b.length : Int) = endL base l - base /\ I2 wA l base b s bv sv D mb d1 d2 0 W := by
 obtain ⟨b, s, bv, sv, D, hp, hbl, _, hE⟩ := h
 rw [List.take_length] at hbl
 rw [qHN (Nat.le_refl _)] at hE
 exact ⟨b, s, bv, sv, D, hE, hbl, b, ⟨hp.lo, hp.mp, hp.pm, h1, h2, hp.ne⟩, rfl, rfl⟩
theorem out_len {W : World} {base : Nat} {v : Value} {l : List UInt8} (h : Out W base v l) : l.length <= maxLen := by
 rcases h.1.2 with ⟨_, h0⟩ | ⟨g, cap, cur, _, _, _, h1, h2, _⟩
 ·omega
 ·omega
theorem qGk {x a : Int} {A : Prop} {B : Int -> Nat -> Prop} (h : (x = 0 /\ a = 0 /\ A) \/ (x ≠ 0 /\ ∃ k : Nat, a = k /\ B x k)) (hn : ∀ x k, ¬ B x k) : x = 0 /\ a = 0 /\ A := by
 rcases h with h | ⟨_, k, _, h⟩
 ·exact h
 ·exact absurd h (hn x k)
theorem qE2 {x a : Int} {A : Prop} {B : Int -> Nat -> Prop} (h : (x = 0 /\ a = 0 /\ A) \/ (x ≠ 0 /\ ∃ k : Nat, a = k /\ B x k)) (hn : ¬ A) {x0 : Int} {k0 : Nat} (hb : ∀ x k, B x k -> x = x0 /\ k = k0) : x0 = x /\ a = (k0 : Int) := by
 rcases h with ⟨_, _, h⟩ | ⟨_, k, ha, h⟩
 ·exact absurd h hn
 ·obtain ⟨h1, h2⟩ := hb x k h
  subst h2
  exact ⟨h1.symm, ha⟩
theorem qEp {nm : List UInt8 -> Bool} : ∀ (l : List Ob) (i : Nat) {x : Int} {k : Nat}, qAF nm i l = some (x, k) -> ¬ x = 0
 | [], _, _, _, h => by cases h
 | o :: r, i, x, k, h => by
   unfold qAF at h
   split at h
   ·exact qEp r (i + 1) h
   ·injection h with h
    injection h with h1 h2
    subst h1
    assumption
theorem qH7 (base : Int) : ∀ (zs : List (Ob × Int)) (i : Nat) (b : List UInt8) (s : List Sy) {x : Int} {k : Nat}, layL base i b s zs = .error (x, k) -> x = 7
 | [], _, _, _, _, _, h => by cases h
 | (o, a) :: r, i, b, s, x, k, h => by
   unfold layL at h
   split at h
   ·injection h with h
    injection h with h1 h2
    exact h1.symm
   ·exact qH7 base r _ _ _ h
theorem qEV {s : List Sy} {base a : Int} : ∀ (l : List Re) (b : List UInt8) {x : Int}, qAg s base a b l = .error x -> ¬ x = 0
 | [], _, _, h => by cases h
 | r :: l, b, x, h => by
   unfold qAg at h
   split at h
   ·rename_i e he
    injection h with h
    subst h
    unfold qB9 at he
    simp only at he
    generalize (if r.name = [] then a else qk r.name s) = p at he
    split at he
    ·injection he with he; omega
    ·split at he
     ·injection he with he; omega
     ·cases he
   ·exact qEV l _ h
theorem qKO {s : List Sy} {base : Int} : ∀ (zs : List (Ob × Int)) (i : Nat) (b : List UInt8) {x : Int} {k : Nat}, relL s base i b zs = .error (x, k) -> ¬ x = 0
 | [], _, _, _, _, h => by cases h
 | (o, a) :: r, i, b, x, k, h => by
   unfold relL at h
   split at h
   ·rename_i e he
    injection h with h
    injection h with h1 h2
    subst h1
    exact qEV _ _ he
   ·exact qKO r _ _ h
theorem I1.not_err {wA W : World} {l : List Ob} {base : Int} {mb c1 c2 : Nat} {e : Int × Nat} (h : layL base 0 [] [] (l.zip (qm base l)) = .error e) : ¬ I1 wA l base mb c1 c2 l.length W := by
 rintro ⟨b, s, bv, sv, D, _, _, _, hE⟩
 rw [h, qHN (Nat.le_refl _)] at hE
 cases hE
theorem I2.not_err {wA W : World} {l : List Ob} {base : Int} {b : List UInt8} {s : List Sy} {bv sv : Value} {D : DataW Unit} {mb c1 c2 : Nat} {e : Int × Nat} (h : relL s base 0 b (l.zip (qm base l)) = .error e) : ¬ I2 wA l base b s bv sv D mb c1 c2 l.length W := by
 rintro ⟨c, _, _, hE⟩
 rw [h, qID (Nat.le_refl _)] at hE
 cases hE
theorem link_any (l : List Ob) (v : Value) (base : Int) (w : World) (hv : OObs w v l) (hnl : ∀ o, o ∈ l -> ∀ x, x ∈ o.syms -> x.name.length <= maxLen) :
  Calls Tryz.prog 22 #[v, .int .i64 base] w fun e w' => LinkEnd w base (qCl qL l base) e w' := by
 obtain ⟨ad, cap, rfl, hm, hc⟩ := id hv
 have HV := Lib.hid hv
 have HNL := Lib.hid hnl
 unfold maxLen at hm
 clear hc hv hnl
 have hmm := @run_makeMap Tryz.prog
 go_enter Tryz.func22, Tryz.ntmps22
 by_cases hbase : base < 0 \/ 1048576 < base \/ base % 4 ≠ 0
 ·have HX : Hid (qCl qL l base = .error (3, 0)) := by unfold Hid qCl; rw [if_pos hbase]
  by_cases h0 : base < 0
  ·clear hbase
   go_wp2_with fail
   refine bodyPost_ret (v := .tuple #[.agg #[.int .i64 0, .slice none 0 0, .slice none 0 0], .agg #[.int .i64 3, .int .i64 0]]) (by simp [results, Tryz.results22, go_sem]) rfl ?_
   exact ⟨((Below.refl _ _).alloc (Nat.le_refl _) _).alloc (by simp) _, by rw [HX.out]; rfl⟩
  ·by_cases h1 : 1048576 < base
   ·clear hbase
    go_wp2_with fail
    refine bodyPost_ret (v := .tuple #[.agg #[.int .i64 0, .slice none 0 0, .slice none 0 0], .agg #[.int .i64 3, .int .i64 0]]) (by simp [results, Tryz.results22, go_sem]) rfl ?_
    exact ⟨((Below.refl _ _).alloc (Nat.le_refl _) _).alloc (by simp) _, by rw [HX.out]; rfl⟩
   ·have h3 : (base % 4 != 0) = true := by simp; omega
    clear hbase
    go_wp2_with fail
    refine bodyPost_ret (v := .tuple #[.agg #[.int .i64 0, .slice none 0 0, .slice none 0 0], .agg #[.int .i64 3, .int .i64 0]]) (by simp [results, Tryz.results22, go_sem]) rfl ?_
    exact ⟨((Below.refl _ _).alloc (Nat.le_refl _) _).alloc (by simp) _, by rw [HX.out]; rfl⟩
 ·have h0 : ¬ base < 0 := by omega
  have h1 : ¬ 1048576 < base := by omega
  have h3 : (base % 4 != 0) = false := by simp; omega
  have HX0 : Hid (qCl qL l base = if l.length = 0 \/ 4 < l.length then .error (5, 0) else qGr qL l base) := by unfold Hid; rw [qCl, if_neg hbase]
  clear hbase
  by_cases hn : l.length = 0 \/ 4 < l.length
  ·have HX : Hid (qCl qL l base = .error (5, 0)) := by unfold Hid; rw [HX0.out, if_pos hn]
   by_cases hn0 : l.length = 0
   ·obtain rfl : l = [] := List.length_eq_zero_iff.1 hn0
    simp only [List.length_nil] at *
    clear hn
    go_wp2_with fail
    refine bodyPost_ret (v := .tuple #[.agg #[.int .i64 0, .slice none 0 0, .slice none 0 0], .agg #[.int .i64 5, .int .i64 0]]) (by simp [results, Tryz.results22, go_sem]) rfl ?_
    exact ⟨((Below.refl _ _).alloc (Nat.le_refl _) _).alloc (by simp) _, by rw [HX.out]; rfl⟩
   ·have hn1 : ¬ (l.length : Int) = 0 := by omega
    have hn2 : (4 : Int) < l.length := by omega
    clear hn
    go_wp2_with fail
    refine bodyPost_ret (v := .tuple #[.agg #[.int .i64 0, .slice none 0 0, .slice none 0 0], .agg #[.int .i64 5, .int .i64 0]]) (by simp [results, Tryz.results22, go_sem]) rfl ?_
    exact ⟨((Below.refl _ _).alloc (Nat.le_refl _) _).alloc (by simp) _, by rw [HX.out]; rfl⟩
  ·have hn1 : ¬ (l.length : Int) = 0 := by omega
   have hn2 : ¬ (4 : Int) < l.length := by omega
   have hn3 : ¬ l.length = 0 := by omega
   have HX1 := Lib.hid (HX0.out.trans (if_neg hn))
   have hn4 : l.length <= 4 := by omega
   have hb0 : 0 <= base := by omega
   have hb1 : base <= 1048576 := by omega
   clear HX0 hn
   obtain ⟨wA, hwA⟩ : ∃ wA, wA = (w.alloc (.cells #[.int .i64 0, .slice none 0 0, .slice none 0 0] 34)).alloc (.cells #[.int .i64 0, .int .i64 0] 36) := ⟨_, rfl⟩
   have HL0 : Hid (LB w wA) := by unfold Hid; rw [hwA]; exact LB.new w
   have hzA : wA.heap.size = w.heap.size + 1 + 1 := by rw [hwA]; simp
   have HZA := Lib.hid hzA
   obtain ⟨c1, hc1⟩ : ∃ c1, c1 = w.heap.size + 4 := ⟨_, rfl⟩
   obtain ⟨c2, hc2⟩ : ∃ c2, c2 = w.heap.size + 5 := ⟨_, rfl⟩
   obtain ⟨d1, hd1⟩ : ∃ d1, d1 = w.heap.size + 6 := ⟨_, rfl⟩
   obtain ⟨d2, hd2⟩ : ∃ d2, d2 = w.heap.size + 7 := ⟨_, rfl⟩
   have HN := Lib.hid (And.intro hc1 (And.intro hc2 (And.intro hd1 hd2)))
   have HS5 : Hid (∀ w5, w5 = (((((w.alloc (.cells #[.int .i64 0, .slice none 0 0, .slice none 0 0] 34)).alloc (.cells #[.int .i64 0, .int .i64 0] 36)).alloc (.cells #[.int .i64 base, .slice none 0 0, .slice none 0 0] 34)).alloc (.map #[] 0)).alloc (.cells #[.pointer (some ⟨w.heap.size + 1 + 1, 0, none⟩)] 93)).alloc (.cells #[.map (some (w.heap.size + 1 + 1 + 1))] 89) -> LP wA w5 base [] [] (.slice none 0 0) (.slice none 0 0) (w.heap.size + 1 + 1 + 1) c1 c2 (.map []) /\ w5.heap.size = d1) := fun w5 h5 => by
    rw [<- hwA] at h5
    rw [h5]
    exact ⟨LP.start wA base _ _ c1 c2 hzA (by omega) (by omega) (by omega), by simp; omega⟩
   have HS6 : Hid (∀ w5 w6, w6 = (w5.alloc (.cells #[.pointer (some ⟨w.heap.size + 1 + 1, 0, none⟩)] 93)).alloc (.cells #[.map (some (w.heap.size + 1 + 1 + 1))] 89) -> LP wA w5 base [] [] (.slice none 0 0) (.slice none 0 0) (w.heap.size + 1 + 1 + 1) c1 c2 (.map []) -> w5.heap.size = d1 ->
     LP wA w6 base [] [] (.slice none 0 0) (.slice none 0 0) (w.heap.size + 1 + 1 + 1) c1 c2 (.map []) /\ w6.heap[d1]? = some (.cells #[.pointer (some ⟨wA.heap.size, 0, none⟩)] 93 (0, 0)) /\ w6.heap[d2]? = some (.cells #[.map (some (w.heap.size + 1 + 1 + 1))] 89 (0, 0))) := fun w5 w6 h6 hp h5 => by
    have q1 := qK w5 #[.pointer (some ⟨w.heap.size + 1 + 1, 0, none⟩)] 93
    have q2 := qK (w5.alloc (.cells #[.pointer (some ⟨w.heap.size + 1 + 1, 0, none⟩)] 93)) #[.map (some (w.heap.size + 1 + 1 + 1))] 89
    have e2 : (w5.alloc (.cells #[.pointer (some ⟨w.heap.size + 1 + 1, 0, none⟩)] 93)).heap.size = d2 := by simp; omega
    rw [e2, <- h6] at q2
    have q3 := ((qE (w5.alloc (.cells #[.pointer (some ⟨w.heap.size + 1 + 1, 0, none⟩)] 93)) (.cells #[.map (some (w.heap.size + 1 + 1 + 1))] 89)).block _ (Array.getElem?_eq_some_iff.1 q1).1).trans q1
    rw [<- h6, h5] at q3
    refine ⟨?_, by rw [hzA]; exact q3, q2⟩
    rw [h6]
    exact (hp.go (qE _ _)).go (qE _ _)
   clear hc1 hc2 hd1 hd2 hwA hzA
   go_wp2_with (first | (go_at_call 39; refine (qKW _ _ _ _ c1 c2 rfl rfl _ (by have := HN.out; simp; omega) (by have := HN.out; simp; omega)).mono ?_; rintro e w5 ⟨rfl, hw5⟩; obtain ⟨hp5, hz5⟩ := HS5.out w5 hw5; have HP5 := Lib.hid hp5; have HZ5 := Lib.hid hz5; clear hw5 hp5 hz5 HS5) | (go_at_call 40; refine (qJA _ _ _ _ d1 d2 rfl rfl _ HZ5.out (by have := HN.out; have := HZ5.out; omega)).mono ?_; rintro e w6 ⟨rfl, hw6⟩; obtain ⟨hp6, hq6, hr6⟩ := HS6.out w5 w6 hw6 HP5.out HZ5.out; have HP6 := Lib.hid hp6; have HQ6 := Lib.hid hq6; have HR6 := Lib.hid hr6; clear hw6 hp6 hq6 hr6 HS6 HP5 HZ5) | fail)
   have HT : Hid (LStep wA l base (w.heap.size + 1 + 1 + 1) c1 c2 d1 d2 w6.heap.size 0 (w6.alloc (.cells #[.func (.func 38) #[] #[], .func (.func 61) #[] #[.pointer (some ⟨c1, 0, none⟩), .pointer (some ⟨c2, 0, none⟩)], .func (.func 62) #[] #[.pointer (some ⟨d2, 0, none⟩), .pointer (some ⟨d1, 0, none⟩)]] 91))) := by
    have hb : Below w6.heap.size w6 (w6.alloc (.cells #[.func (.func 38) #[] #[], .func (.func 61) #[] #[.pointer (some ⟨c1, 0, none⟩), .pointer (some ⟨c2, 0, none⟩)], .func (.func 62) #[] #[.pointer (some ⟨d2, 0, none⟩), .pointer (some ⟨d1, 0, none⟩)]] 91)) := qE _ _
    refine ⟨qK _ _ _, (hb.block _ (Array.getElem?_eq_some_iff.1 HQ6.out).1).trans HQ6.out, (hb.block _ (Array.getElem?_eq_some_iff.1 HR6.out).1).trans HR6.out, .inl ⟨rfl, [], [], _, _, _, HP6.out.go hb, by simp [endL], by simp, rfl⟩⟩
   clear HP6 HQ6 HR6 hmm
   go_loopw [43] (fun i W => ∃ k : Nat, k <= 3 /\ i = .int .i64 k /\ Hid (LStep wA l base (w.heap.size + 1 + 1 + 1) c1 c2 d1 d2 w6.heap.size k W)) (fun i _ => 3 - (intOf i).toNat)
   case atStart => exact ⟨0, by decide, rfl, HT⟩
   case round =>
    obtain ⟨k, hk, rfl, HI⟩ := hrel
    clear HT
    have HLW := Lib.hid (HL0.out.go HI.out.bel)
    have HVW := Lib.hid ((HV.out.below HL0.out.bel (Nat.le_refl _)).below HI.out.bel (Nat.le_refl _))
    have HVA := Lib.hid (HV.out.below HL0.out.bel (Nat.le_refl _))
    have HF := Lib.hid HI.out.1
    have HD1 := Lib.hid HI.out.2.1
    have HD2 := Lib.hid HI.out.2.2.1
    have hzF : w6.heap.size < wr.heap.size := (Array.getElem?_eq_some_iff.1 HF.out).1
    rcases HI.out.2.2.2 with ⟨rfl, hi⟩ | ⟨rfl, hwn, hi⟩ | ⟨rfl, hwn, hi⟩ | ⟨rfl, hwn, hi⟩
    ·have fc : wr.cell? ⟨w6.heap.size, 0, none⟩ = some (.func (.func 38) #[] #[]) := qB HF.out rfl
     have HE := Lib.hid (qLK l (.slice ad l.length cap) base wr HVW.out hb0 hb1 hn4 HNL.out)
     have HI0 := Lib.hid hi
     clear hi
     cases hwn : qAF qL 0 l with
     | none =>
       have HWN := Lib.hid hwn
       have HNO : Hid (∀ (x : Int) (k : Nat), ¬ qAF qL 0 l = some (x, k)) := fun x k h => by rw [hwn] at h; cases h
       clear hwn
       go_wp2_with (first | (go_at_call 41; refine HE.out.mono ?_; rintro e w7 ⟨hb7, x, a, rfl, h7⟩; obtain ⟨rfl, rfl, _⟩ := qGk h7 HNO.out; have HK7 := Lib.hid (qi.of hb7); have HI7 := Lib.hid (HI0.out.go hb7); have HL7 := Lib.hid (HLW.out.go hb7); clear hb7 h7) | fail)
       exact ⟨⟨1, by decide, by go_num, ⟨(HK7.out.trans (qi.of (qE _ _))).2 _ _ _ _ HF.out (by decide) (by decide) (by decide), (HK7.out.trans (qi.of (qE _ _))).2 _ _ _ _ HD1.out (by decide) (by decide) (by decide), (HK7.out.trans (qi.of (qE _ _))).2 _ _ _ _ HD2.out (by decide) (by decide) (by decide), .inr (.inl ⟨rfl, HWN.out, HI7.out.go (qE _ _)⟩)⟩⟩, by simp [intOf]⟩
     | some xk =>
       obtain ⟨x0, k0⟩ := xk
       have hx0 : ¬ x0 = 0 := qEp l 0 hwn
       have HNO : Hid (¬ qAF qL 0 l = none) := fun h => by rw [hwn] at h; cases h
       have HEQ : Hid (∀ (x : Int) (k : Nat), qAF qL 0 l = some (x, k) -> x = x0 /\ k = k0) := fun x k h => by rw [hwn] at h; cases h; exact ⟨rfl, rfl⟩
       have HX : Hid (qCl qL l base = .error (x0, k0)) := by unfold Hid; rw [HX1.out, qGr, hwn]
       go_wp2_with (first | (go_at_call 41; refine HE.out.mono ?_; rintro e w7 ⟨hb7, x, a, rfl, h7⟩; obtain ⟨rfl, rfl⟩ := qE2 h7 HNO.out HEQ.out; have HL7 := Lib.hid (HLW.out.go hb7); clear hb7 h7) | fail)
       obtain ⟨V, hV⟩ : ∃ V, V = w7.alloc (.cells #[.int .i64 x0, .int .i64 (k0 : Int)] 36) := ⟨_, rfl⟩
       have HB : Hid (V.heap[w7.heap.size]? = some (.cells #[.int .i64 x0, .int .i64 (k0 : Int)] 36 (0, 0))) := by unfold Hid; rw [hV]; exact qK _ _ _
       have HLV := Lib.hid (HL7.out.go (w' := V) (by rw [hV]; exact qE _ _))
       rw [<- hV]
       have hbS := HB.out
       refine wp_region_noPanic ?_
       refine wp_region_held_drew (S := fun X => X.heap[w7.heap.size]? = some (.cells #[.int .i64 x0, .int .i64 (k0 : Int)] 36 (0, 0))) (by kernel_rfl) hbS (fun hHeld => ?_)
       obtain ⟨V0, hV0⟩ : ∃ X, X = V.drew := ⟨_, rfl⟩
       have HL8 := Lib.hid (HLV.out.go (w' := V0) (by rw [hV0]; exact (Below.refl _ _).drew))
       rw [<- hV0] at hHeld ⊢
       have hz7 := HL7.out.lt
       clear hV hV0 hbS HLV HB
       refine tk 0 54 hHeld ?_
       simp only [sA, sB, sC]
       refine tk2 1 55 (v := ?_) ?_ hHeld ?_
       rotate_left
       ·intro w hSw
        have x0 := qA (i := 0) hSw rfl
        have x1 := qA (i := 1) hSw rfl
        go_simp
        try with_reducible rfl
       simp only [sA, sB, sC]
       refine wr1 2 fun K hK => ?_
       obtain ⟨n0, n1, n2, n3, n4, f0, f1, f2, f3, f4⟩ := HL8.out.cells
       have hz8 := HL8.out.lt
       go_simp
       refine hK.out _ _ (by rw [Below.heap_setCell _ _ _ _ (by show w7.heap.size ≠ w.heap.size; omega), Below.heap_setCell _ _ _ _ (by show w7.heap.size ≠ w.heap.size; omega), Below.heap_setCell _ _ _ _ (by show w7.heap.size ≠ w.heap.size; omega)]; exact hHeld) (fun hHeld => ?_)
       clear hK K
       refine wr1 3 fun K hK => ?_
       go_simp
       refine hK.out _ _ (by rw [Below.heap_setCell _ _ _ _ (by show w7.heap.size ≠ w.heap.size + 1; omega), Below.heap_setCell _ _ _ _ (by show w7.heap.size ≠ w.heap.size + 1; omega)]; exact hHeld) (fun _ => ?_)
       clear hK K hHeld
       refine wpAnyH_done (by kernel_rfl) ?_ _
       refine NoPanic.normal ?_
       go_wp2_with fail
       refine bodyPost_ret (v := .tuple #[.agg #[.int .i64 0, .slice none 0 0, .slice none 0 0], .agg #[.int .i64 x0, .int .i64 (k0 : Int)]]) (by simp [results, Tryz.results22, go_sem, n0, n1, n2, n3, n4]) rfl ?_
       exact ⟨HL8.out.five _ _ _ _ _, by rw [HX.out]; rfl⟩
    ·have fc : wr.cell? ⟨w6.heap.size, 1, none⟩ = some (.func (.func 61) #[] #[.pointer (some ⟨c1, 0, none⟩), .pointer (some ⟨c2, 0, none⟩)]) := qB HF.out rfl
     have HR := Lib.hid (qCV l 0 hwn)
     have HE := Lib.hid (qL6 l (.slice ad l.length cap) base (w.heap.size + 1 + 1 + 1) c1 c2 wA wr HVA.out hb0 hb1 hn4 HNL.out HR.out hi)
     have HWN := Lib.hid hwn
     clear hi hwn
     cases hly : layL base 0 [] [] (l.zip (qm base l)) with
     | error xk =>
       obtain ⟨x0, k0⟩ := xk
       have hx0 : ¬ x0 = 0 := by rw [qH7 _ _ _ _ _ hly]; decide
       have HNO : Hid (∀ w7, ¬ I1 wA l base (w.heap.size + 1 + 1 + 1) c1 c2 l.length w7) := fun w7 => I1.not_err hly
       have HEQ : Hid (∀ (x : Int) (k : Nat), layL base 0 [] [] (l.zip (qm base l)) = .error (x, k) -> x = x0 /\ k = k0) := fun x k h => by rw [hly] at h; cases h; exact ⟨rfl, rfl⟩
       have HX : Hid (qCl qL l base = .error (x0, k0)) := by unfold Hid; rw [HX1.out, qGr, HWN.out]; simp only [qIR, hly]
       go_wp2_with (first | (go_at_call 41; refine HE.out.mono ?_; rintro e w7 ⟨hk7, hb7, x, a, rfl, h7⟩; obtain ⟨rfl, rfl⟩ := qE2 h7 (HNO.out w7) HEQ.out; have HL7 := Lib.hid (HL0.out.go hb7); clear hk7 hb7 h7) | fail)
       obtain ⟨V, hV⟩ : ∃ V, V = w7.alloc (.cells #[.int .i64 x0, .int .i64 (k0 : Int)] 36) := ⟨_, rfl⟩
       have HB : Hid (V.heap[w7.heap.size]? = some (.cells #[.int .i64 x0, .int .i64 (k0 : Int)] 36 (0, 0))) := by unfold Hid; rw [hV]; exact qK _ _ _
       have HLV := Lib.hid (HL7.out.go (w' := V) (by rw [hV]; exact qE _ _))
       rw [<- hV]
       have hbS := HB.out
       refine wp_region_noPanic ?_
       refine wp_region_held_drew (S := fun X => X.heap[w7.heap.size]? = some (.cells #[.int .i64 x0, .int .i64 (k0 : Int)] 36 (0, 0))) (by kernel_rfl) hbS (fun hHeld => ?_)
       obtain ⟨V0, hV0⟩ : ∃ X, X = V.drew := ⟨_, rfl⟩
       have HL8 := Lib.hid (HLV.out.go (w' := V0) (by rw [hV0]; exact (Below.refl _ _).drew))
       rw [<- hV0] at hHeld ⊢
       have hz7 := HL7.out.lt
       clear hV hV0 hbS HLV HB
       refine tk 0 54 hHeld ?_
       simp only [sA, sB, sC]
       refine tk2 1 55 (v := ?_) ?_ hHeld ?_
       rotate_left
       ·intro w hSw
        have x0 := qA (i := 0) hSw rfl
        have x1 := qA (i := 1) hSw rfl
        go_simp
        try with_reducible rfl
       simp only [sA, sB, sC]
       refine wr1 2 fun K hK => ?_
       obtain ⟨n0, n1, n2, n3, n4, f0, f1, f2, f3, f4⟩ := HL8.out.cells
       have hz8 := HL8.out.lt
       go_simp
       refine hK.out _ _ (by rw [Below.heap_setCell _ _ _ _ (by show w7.heap.size ≠ w.heap.size; omega), Below.heap_setCell _ _ _ _ (by show w7.heap.size ≠ w.heap.size; omega), Below.heap_setCell _ _ _ _ (by show w7.heap.size ≠ w.heap.size; omega)]; exact hHeld) (fun hHeld => ?_)
       clear hK K
       refine wr1 3 fun K hK => ?_
       go_simp
       refine hK.out _ _ (by rw [Below.heap_setCell _ _ _ _ (by show w7.heap.size ≠ w.heap.size + 1; omega), Below.heap_setCell _ _ _ _ (by show w7.heap.size ≠ w.heap.size + 1; omega)]; exact hHeld) (fun _ => ?_)
       clear hK K hHeld
       refine wpAnyH_done (by kernel_rfl) ?_ _
       refine NoPanic.normal ?_
       go_wp2_with fail
       refine bodyPost_ret (v := .tuple #[.agg #[.int .i64 0, .slice none 0 0, .slice none 0 0], .agg #[.int .i64 x0, .int .i64 (k0 : Int)]]) (by simp [results, Tryz.results22, go_sem, n0, n1, n2, n3, n4]) rfl ?_
       exact ⟨HL8.out.five _ _ _ _ _, by rw [HX.out]; rfl⟩
     | ok bs =>
       have HNO : Hid (∀ (x : Int) (k : Nat), ¬ layL base 0 [] [] (l.zip (qm base l)) = .error (x, k)) := fun x k h => by rw [hly] at h; cases h
       clear hly
       go_wp2_with (first | (go_at_call 41; refine HE.out.mono ?_; rintro e w7 ⟨hk7, hb7, x, a, rfl, h7⟩; obtain ⟨rfl, rfl, hi7⟩ := qGk h7 HNO.out; have HK7 := Lib.hid hk7; have HI7 := Lib.hid hi7; clear hk7 hb7 h7 hi7) | fail)
       exact ⟨⟨2, by decide, by go_num, ⟨(HK7.out.trans (qi.of (qE _ _))).2 _ _ _ _ HF.out (by decide) (by decide) (by decide), (HK7.out.trans (qi.of (qE _ _))).2 _ _ _ _ HD1.out (by decide) (by decide) (by decide), (HK7.out.trans (qi.of (qE _ _))).2 _ _ _ _ HD2.out (by decide) (by decide) (by decide), .inr (.inr (.inl ⟨rfl, HWN.out, HI7.out.go (qE _ _)⟩))⟩⟩, by simp [intOf]⟩
    ·have fc : wr.cell? ⟨w6.heap.size, 2, none⟩ = some (.func (.func 62) #[] #[.pointer (some ⟨d2, 0, none⟩), .pointer (some ⟨d1, 0, none⟩)]) := qB HF.out rfl
     have HR := Lib.hid (qCV l 0 hwn)
     obtain ⟨b, s, bv, sv, D, hly, hbl, hi2⟩ := hi.done HD1.out HD2.out
     have HE := Lib.hid (qL4 l (.slice ad l.length cap) base b s bv sv D (w.heap.size + 1 + 1 + 1) d1 d2 wA wr HVA.out hb0 hb1 hn4 HR.out hbl hi2)
     have HWN := Lib.hid hwn
     have HLY := Lib.hid hly
     clear hi hwn hly hi2 hbl
     cases hrl : relL s base 0 b (l.zip (qm base l)) with
     | error xk =>
       obtain ⟨x0, k0⟩ := xk
       have hx0 : ¬ x0 = 0 := qKO _ _ _ hrl
       have HNO : Hid (∀ w7, ¬ I2 wA l base b s bv sv D (w.heap.size + 1 + 1 + 1) d1 d2 l.length w7) := fun w7 => I2.not_err hrl
       have HEQ : Hid (∀ (x : Int) (k : Nat), relL s base 0 b (l.zip (qm base l)) = .error (x, k) -> x = x0 /\ k = k0) := fun x k h => by rw [hrl] at h; cases h; exact ⟨rfl, rfl⟩
       have HX : Hid (qCl qL l base = .error (x0, k0)) := by unfold Hid; rw [HX1.out, qGr, HWN.out]; simp only [qIR, HLY.out, qJ7, hrl]
       go_wp2_with (first | (go_at_call 41; refine HE.out.mono ?_; rintro e w7 ⟨hk7, hb7, x, a, rfl, h7⟩; obtain ⟨rfl, rfl⟩ := qE2 h7 (HNO.out w7) HEQ.out; have HL7 := Lib.hid (HL0.out.go hb7); clear hk7 hb7 h7) | fail)
       obtain ⟨V, hV⟩ : ∃ V, V = w7.alloc (.cells #[.int .i64 x0, .int .i64 (k0 : Int)] 36) := ⟨_, rfl⟩
       have HB : Hid (V.heap[w7.heap.size]? = some (.cells #[.int .i64 x0, .int .i64 (k0 : Int)] 36 (0, 0))) := by unfold Hid; rw [hV]; exact qK _ _ _
       have HLV := Lib.hid (HL7.out.go (w' := V) (by rw [hV]; exact qE _ _))
       rw [<- hV]
       have hbS := HB.out
       refine wp_region_noPanic ?_
       refine wp_region_held_drew (S := fun X => X.heap[w7.heap.size]? = some (.cells #[.int .i64 x0, .int .i64 (k0 : Int)] 36 (0, 0))) (by kernel_rfl) hbS (fun hHeld => ?_)
       obtain ⟨V0, hV0⟩ : ∃ X, X = V.drew := ⟨_, rfl⟩
       have HL8 := Lib.hid (HLV.out.go (w' := V0) (by rw [hV0]; exact (Below.refl _ _).drew))
       rw [<- hV0] at hHeld ⊢
       have hz7 := HL7.out.lt
       clear hV hV0 hbS HLV HB
       refine tk 0 54 hHeld ?_
       simp only [sA, sB, sC]
       refine tk2 1 55 (v := ?_) ?_ hHeld ?_
       rotate_left
       ·intro w hSw
        have x0 := qA (i := 0) hSw rfl
        have x1 := qA (i := 1) hSw rfl
        go_simp
        try with_reducible rfl
       simp only [sA, sB, sC]
       refine wr1 2 fun K hK => ?_
       obtain ⟨n0, n1, n2, n3, n4, f0, f1, f2, f3, f4⟩ := HL8.out.cells
       have hz8 := HL8.out.lt
       go_simp
       refine hK.out _ _ (by rw [Below.heap_setCell _ _ _ _ (by show w7.heap.size ≠ w.heap.size; omega), Below.heap_setCell _ _ _ _ (by show w7.heap.size ≠ w.heap.size; omega), Below.heap_setCell _ _ _ _ (by show w7.heap.size ≠ w.heap.size; omega)]; exact hHeld) (fun hHeld => ?_)
       clear hK K
       refine wr1 3 fun K hK => ?_
       go_simp
       refine hK.out _ _ (by rw [Below.heap_setCell _ _ _ _ (by show w7.heap.size ≠ w.heap.size + 1; omega), Below.heap_setCell _ _ _ _ (by show w7.heap.size ≠ w.heap.size + 1; omega)]; exact hHeld) (fun _ => ?_)
       clear hK K hHeld
       refine wpAnyH_done (by kernel_rfl) ?_ _
       refine NoPanic.normal ?_
       go_wp2_with fail
       refine bodyPost_ret (v := .tuple #[.agg #[.int .i64 0, .slice none 0 0, .slice none 0 0], .agg #[.int .i64 x0, .int .i64 (k0 : Int)]]) (by simp [results, Tryz.results22, go_sem, n0, n1, n2, n3, n4]) rfl ?_
       exact ⟨HL8.out.five _ _ _ _ _, by rw [HX.out]; rfl⟩
     | ok c =>
       have HNO : Hid (∀ (x : Int) (k : Nat), ¬ relL s base 0 b (l.zip (qm base l)) = .error (x, k)) := fun x k h => by rw [hrl] at h; cases h
       clear hrl
       go_wp2_with (first | (go_at_call 41; refine HE.out.mono ?_; rintro e w7 ⟨hk7, hb7, x, a, rfl, h7⟩; obtain ⟨rfl, rfl, hi7⟩ := qGk h7 HNO.out; have HK7 := Lib.hid hk7; have HI7 := Lib.hid hi7; clear hk7 hb7 h7 hi7) | fail)
       exact ⟨⟨3, by decide, by go_num, ⟨(HK7.out.trans (qi.of (qE _ _))).2 _ _ _ _ HF.out (by decide) (by decide) (by decide), (HK7.out.trans (qi.of (qE _ _))).2 _ _ _ _ HD1.out (by decide) (by decide) (by decide), (HK7.out.trans (qi.of (qE _ _))).2 _ _ _ _ HD2.out (by decide) (by decide) (by decide), .inr (.inr (.inr ⟨rfl, HWN.out, b, s, bv, sv, D, HLY.out, HI7.out.go (qE _ _)⟩))⟩⟩, by simp [intOf]⟩
    ·obtain ⟨b, s, bv, sv, D, hly, c, hp, hcl, hrl⟩ := hi
     rw [qID (Nat.le_refl _)] at hrl
     have HX : Hid (qCl qL l base = .ok (c, s)) := by unfold Hid; rw [HX1.out, qGr, hwn]; simp only [qIR, hly, qJ7, hrl]
     have HLR := Lib.hid (LR.of hp.lo (out_len hp.lo.by'))
     obtain ⟨ba, bc, hbv, _⟩ := id HLR.out.by'
     obtain ⟨sa, sc, hsv, _⟩ := id HLR.out.sy
     subst hbv hsv
     obtain ⟨r0, r1, r2, r3⟩ := HLR.out.cells
     rw [HZA.out] at r0 r1 r2 r3
     obtain ⟨n0, n1, n2, n3, n4, f0, f1, f2, f3, f4⟩ := HLW.out.cells
     have hz := HLW.out.lt
     have hz3 := HL0.out.lt
     have hz4 : w.heap.size + 1 + 1 < wr.heap.size := by have := HLR.out.size; have := HZA.out; omega
     clear hp hly hrl hwn hcl
     go_wp2_with fail
     refine bodyPost_ret (v := .tuple #[.agg #[.int .i64 base, .slice ba c.length bc, .slice sa s.length sc], .agg #[.int .i64 0, .int .i64 0]]) (by simp [results, Tryz.results22, go_sem, n0, n1, n2, n3, n4]) rfl ?_
     exact ⟨HLW.out.five _ _ _ _ _, by rw [HX.out]; exact ⟨_, _, rfl, HLR.out.five hz3 _ _ _ _ _⟩⟩
end Go.Proofs.YtgjmbjahgcndnaaGreatDoor.Li
