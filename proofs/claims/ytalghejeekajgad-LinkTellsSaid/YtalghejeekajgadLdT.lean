/- The program's own pass that puts what an object's relocs ask for. -/
import Derived.Test.YtalghejeekajgadLdL
namespace Go.Proofs.Ytalghejeekajgad
open Go.RowKit Go.Maps Go.MapKept

/-- A copy into a row: no other block is changed. -/
theorem wpList_copy_grown {P : Program} {w : World} {ops : Array Oper} {rest : List Oper} {o : Oper} {a : Act} {Q : Exit → Act → World → Prop} (hgd : o.guard = none) (d s : Operand) (dT sT : TypeId)
    (ho : o.op = .call { callee := .builtin .copy, args := #[d, s], argTypes := #[dT, sT] }) (elem : TypeId) (hu : P.underlying dT = some (.slice elem)) (hsz : (P.info? elem).map (·.size) = some 1)
    (g off dLen dCap : Nat) (ad : Addr) (sLen sCap : Nat) (hd : a.eval d = .slice (some ⟨g, off, none⟩) dLen dCap) (hs : a.eval s = .slice (some ad) sLen sCap)
    (cur : Array Value) (t : TypeId) (hg : w.heap[g]? = some (.cells cur t (0, 0))) (cs : List Value) (hn : cs.length = Nat.min sLen dLen)
    (hsrc : ∀ j v, cs[j]? = some v → w.cell? (ad.add j) = some v) (hfit : off + cs.length ≤ cur.size) (h1 : ∀ v ∈ cs, v.oneCell' = true)
    (h : ∀ w', Hid (w'.heap[g]? = some (.cells (splice cur.toList off cs).toArray t (0, 0))) → Hid (w.grownBy w' (some g)) → wpList P ops Q rest (a.put o.dst (goInt cs.length)) w') : wpList P ops Q (o :: rest) a w := by
  refine wpList_copy_own hgd d s dT sT ho elem hu hsz g off dLen dCap ad sLen sCap hd hs cur t hg cs hn hsrc hfit h1 ?_
  exact h _ (setRow_heap w g cur _ t _ hg) ⟨rfl, rfl, rfl, by simp, fun k _ hk => setRow_other w g k _ (fun e => hk (by rw [e]))⟩

theorem splice_take {α : Type} (L : List α) (off n : Nat) (cs : List α) (h : off + cs.length ≤ n) (hn : n ≤ L.length) : (splice L off cs).take n = splice (L.take n) off cs := by
  unfold splice
  rw [List.take_append, List.take_append, List.take_take, List.take_take, List.length_take, List.drop_take]
  have e1 : min n off = off := by omega
  have e2 : min off n = off := by omega
  have e3 : min off L.length = off := by omega
  rw [e1, e2, e3, List.take_of_length_le (l := cs) (by omega), Nat.sub_sub]

theorem put_splice (b : List UInt8) (fr sz : Nat) (n : Int) (h : fr + sz ≤ b.length) : splice (bcells b) fr ((List.range sz).map fun i => .int .u8 (Oi.putAt (fun i => byF b (fr + i)) 0 sz n i)) = bcells (putL b fr sz n) := by
  have hlb : (bcells b).length = b.length := by simp [bcells]
  refine List.ext_getElem? fun i => ?_
  unfold splice
  simp only [List.length_map, List.length_range]
  by_cases h1 : i < fr
  · rw [List.getElem?_append_left (by simp [hlb]; omega), List.getElem?_take_of_lt h1]
    simp only [bcells, List.getElem?_map, putL, List.getElem?_mapIdx]
    have hi : i < b.length := by omega
    rw [List.getElem?_eq_getElem hi]
    simp only [Option.map_some]
    rw [if_neg (by omega)]
  · rw [List.getElem?_append_right (by simp [hlb]; omega)]
    have hm : (List.take fr (bcells b)).length = fr := by simp [hlb]; omega
    rw [hm]
    by_cases h2 : i < fr + sz
    · rw [List.getElem?_append_left (by simp; omega)]
      have hi : i < b.length := by omega
      rw [List.getElem?_map, List.getElem?_range (by omega)]
      simp only [bcells, List.getElem?_map, putL, List.getElem?_mapIdx, List.getElem?_eq_getElem hi, Option.map_some]
      rw [if_pos (by omega), lowB_nat]
      unfold Oi.putAt
      rw [if_pos (by omega)]
      congr 4
      have : (8 * ((sz : Int) - 1 - (((i - fr : Nat) : Int) - 0))).toNat = (8 * ((sz : Int) - 1 - ((i : Int) - (fr : Int)))).toNat := by omega
      rw [this]
    · rw [List.getElem?_append_right (by simp; omega)]
      simp only [List.length_map, List.length_range, List.getElem?_drop]
      rw [show fr + sz + (i - fr - sz) = i by omega]
      simp only [bcells, List.getElem?_map, putL, List.getElem?_mapIdx]
      by_cases hi : i < b.length
      · rw [List.getElem?_eq_getElem hi]
        simp only [Option.map_some]
        rw [if_neg (by omega)]
      · rw [List.getElem?_eq_none (by omega)]
        rfl

theorem put_src {w : World} {h sz : Nat} {cs : List Value} {f : Nat → Value} (hcs : cs = (List.range sz).map f) (hc : ∀ i, i < sz → w.cell? ⟨h, i, none⟩ = some (f i)) : ∀ j v, cs[j]? = some v → w.cell? ((⟨h, 0, none⟩ : Addr).add j) = some v := by
  intro j v hv
  rw [hcs, List.getElem?_map] at hv
  by_cases hj : j < sz
  · rw [List.getElem?_range hj] at hv
    rw [addr_add, Nat.zero_add, hc j hj]
    simpa using hv
  · rw [List.getElem?_eq_none (by simpa using hj)] at hv
    simp at hv
theorem asked_x6 {s : List Sy} {A p n x : Int} {r : Re} (h : AskedR s A r n x) (hp : (if r.name = [] then A else whereL r.name s) = p) (h0 : p < 0) : x = 6 := by
  subst hp
  rcases h with h | h | h
  · exact h.1
  · exact absurd h0 h.2.1
  · exact absurd h0 h.2.1
theorem asked_x3 {s : List Sy} {A p n x : Int} {r : Re} (h : AskedR s A r n x) (hp : (if r.name = [] then A else whereL r.name s) = p) (h0 : ¬ p < 0) (h1 : r.size = 2 ∧ (65535 < wrap32 (p + r.add) ∨ wrap32 (p + r.add) < -32768)) : x = 3 := by
  subst hp
  rcases h with h | h | h
  · exact absurd h.2 h0
  · exact h.1
  · exact absurd h1 h.2.2.1
theorem asked_x0 {s : List Sy} {A p n x : Int} {r : Re} (h : AskedR s A r n x) (hp : (if r.name = [] then A else whereL r.name s) = p) (h0 : ¬ p < 0) (h1 : ¬ (r.size = 2 ∧ (65535 < wrap32 (p + r.add) ∨ wrap32 (p + r.add) < -32768))) : x = 0 ∧ n = wrap32 (p + r.add) := by
  subst hp
  rcases h with h | h | h
  · exact absurd h.2 h0
  · exact absurd h.2.2 h1
  · exact ⟨h.1, h.2.2.2⟩
theorem cur_byte {cur : Array Value} {b : List UInt8} (h : cur.toList.take b.length = bcells b) {i : Nat} (hi : i < b.length) : cur[i]? = some (.int .u8 (byF b i)) := by
  have h2 := congrArg (fun l => l[i]?) h
  simp only [List.getElem?_take_of_lt hi] at h2
  rw [← Array.getElem?_toList, h2]
  simp [bcells, byF, List.getD, hi]
theorem nameR_len10 {l : List UInt8} (h : nameR l = true) : l.length ≤ 100 := by
  unfold nameR at h
  cases l with
  | nil => simp
  | cons c r => simp at h; simp; omega

section
variable {w1 W W' : World} {base : Int} {b : List UInt8} {s : List Sy} {sv : Value} {mb c1 c2 g n cap : Nat} {D : DataW Unit}
/-- The row's own cells. -/
theorem LP.cur (h : LP w1 W base b s (.slice (some ⟨g, 0, none⟩) n cap) sv mb c1 c2 D) : ∃ cur : Array Value, n = b.length ∧ W.heap[g]? = some (.cells cur 5 (0, 0)) ∧ b.length ≤ cur.size ∧ b.length ≤ cap ∧ cur.toList.take b.length = bcells b ∧ w1.heap.size < g := by
  have hr := h.lo.by'.1.2
  rcases hr with ⟨h0, _⟩ | ⟨g', cap', cur, h0, hb, hg, h1, h2, h3, h4⟩
  · cases h0
  · cases h0
    refine ⟨cur, rfl, hg, by omega, h1, by simpa using h4, by omega⟩
theorem LP.copied (h : LP w1 W base b s (.slice (some ⟨g, 0, none⟩) n cap) sv mb c1 c2 D) {cur : Array Value} (hc : W.heap[g]? = some (.cells cur 5 (0, 0))) {fr sz : Nat} {x : Int} (hfit : fr + sz ≤ b.length) (hg : W.grownBy W' (some g))
    (hn : W'.heap[g]? = some (.cells (splice cur.toList fr ((List.range sz).map fun i => .int .u8 (Oi.putAt (fun i => byF b (fr + i)) 0 sz x i))).toArray 5 (0, 0))) :
    KeepT W W' ∧ LP w1 W' base (putL b fr sz x) s (.slice (some ⟨g, 0, none⟩) n cap) sv mb c1 c2 D := by
  obtain ⟨cur', hnb, hc', hz1, hz2, ht, hgf⟩ := h.cur
  rw [hc] at hc'
  injection hc' with hc'
  injection hc' with hc'
  subst hc'
  have hz := h.lo.size
  have hne : ∀ {p : Nat} {c : Array Value} {t : TypeId} {f : Nat × Nat}, W.heap[p]? = some (.cells c t f) → t ≠ 5 → some p ≠ some g := by
    intro p c t f hp ht e
    injection e with e
    subst e
    rw [hc] at hp
    injection hp with hp
    injection hp with _ h2
    exact ht h2.symm
  have hkeep : ∀ {q : Nat} {c : Array Value} {t : TypeId} {f : Nat × Nat}, W.heap[q]? = some (.cells c t f) → t ≠ 5 → W'.heap[q]? = some (.cells c t f) := fun hb h5 => by
    rw [hg.block _ (Array.getElem?_eq_some_iff.1 hb).1 (hne hb h5)]; exact hb
  have hmg : some mb ≠ some g := by
    have := map_row h.lo.by'.1 h.mp
    simpa [Value.ownBlock] using this
  have hsy : W'.ownsRow (w1.heap.size + 1) 49 2 sv s.length (scells s) := by
    refine h.lo.sy.kept hg ?_
    rcases h.lo.sy.2 with ⟨h0, _⟩ | ⟨g', cap', cur', h0, _, hgb, _⟩
    · exact .inl (by rw [h0]; rfl)
    · exact .inr (by rw [h0]; exact hne hgb (by decide))
  have hrow : W'.ownsRow (w1.heap.size + 1) 5 1 (.slice (some ⟨g, 0, none⟩) n cap) (putL b fr sz x).length (bcells (putL b fr sz x)) := by
    have hr := h.lo.by'.1.2
    rcases hr with ⟨h0, _⟩ | ⟨g', cap', cur', h0, hb, hgg, h1, h2, h3, h4⟩
    · cases h0
    · cases h0
      refine ⟨by simp [bcells], .inr ⟨g, cap, _, by rw [putL_len], hb, hn, by rw [putL_len]; exact h1, h2, ?_, ?_⟩⟩
      · rw [List.size_toArray, length_splice _ _ _ (by simp; omega)]
        rw [hc] at hgg
        injection hgg with hgg
        injection hgg with hgg
        rw [Array.length_toList, hgg]
        exact h3
      · rw [putL_len, Nat.mul_one, splice_take _ _ _ _ (by simp; omega) (by simp; omega), ht, put_splice _ _ _ _ hfit]
  exact ⟨⟨hg.size, fun q c t f hb h5 _ _ => hkeep hb h5⟩, ⟨h.lo.bel.grown hg (by omega) (fun j hj => by cases hj; omega), hkeep h.lo.box (by decide), ⟨hrow, Nat.le_trans h.lo.by'.2 hg.size⟩, hsy⟩, h.mp.kept hg hmg, h.pm, hkeep h.q1 (by decide), hkeep h.q2 (by decide), h.ne⟩
end

/-- What putting an object's relocs comes to. -/
def Told (w1 W : World) (base A : Int) (b : List UInt8) (s : List Sy) (bv sv : Value) (mb c1 c2 : Nat) (D : DataW Unit) (o : Ob) (e : Ending) (W' : World) : Prop :=
  KeepT W W' ∧ Below w1.heap.size w1 W' ∧ ∃ x, e = .returned (.int .i64 x) ∧ ((x ≠ 0 ∧ putRels s base A b o.rels = .error x) ∨ (x = 0 ∧ ∃ b', b'.length = b.length ∧ putRels s base A b o.rels = .ok b' ∧ LP w1 W' base b' s bv sv mb c1 c2 D))

theorem told_err {w1 W W' : World} {base A : Int} {b b' : List UInt8} {s : List Sy} {bv sv : Value} {mb c1 c2 : Nat} {D : DataW Unit} {o : Ob} {x : Int} (hk : KeepT W W') (hb : Below w1.heap.size w1 W') (hx : x ≠ 0) {j : Nat} (hj : j < o.rels.length)
    (hE : putRels s base A b o.rels = putRels s base A b' (o.rels.drop j)) (h : putRel s base A b' o.rels[j] = .error x) : Told w1 W base A b s bv sv mb c1 c2 D o (.returned (.int .i64 x)) W' :=
  ⟨hk, hb, x, rfl, .inl ⟨hx, by rw [hE, putRels_at hj, h]⟩⟩

set_option maxRecDepth 100000 in
set_option maxHeartbeats 8000000 in
theorem tell_any (o : Ob) (c y r : Value) (A base : Int) (b : List UInt8) (s : List Sy) (bv sv : Value) (mb c1 c2 : Nat) (D : DataW Unit) (w1 W : World) (hp : LP w1 W base b s bv sv mb c1 c2 D) (ho : ObIn w1 c y r o) (hw : wrongO nameR o = 0)
    (hb0 : 0 ≤ base) (hAb : base ≤ A) (hA2 : A ≤ 2000000) (hfit : A - base + o.code.length ≤ b.length) (hbl : b.length ≤ 2000000) :
    Calls Try.prog 46 #[.agg #[c, y, r], .int .i64 A, .pointer (some ⟨c2, 0, none⟩), .pointer (some ⟨c1, 0, none⟩)] W fun e W' => Told w1 W base A b s bv sv mb c1 c2 D o e W' := by
  have HIN := Lib.hid ho
  obtain ⟨q1, q2, rfl, hcl, q3⟩ := id ho.1
  obtain ⟨q4, q5, rfl, q6⟩ := id ho.2.1
  obtain ⟨q7, q8, rfl, q9⟩ := id ho.2.2
  obtain ⟨hf1, hf2, hf3⟩ := wrongO_few hw
  have HRR := Lib.hid (wrongO_rels hw)
  have HFIT := Lib.hid hfit
  obtain ⟨V, hV⟩ : ∃ V, V = W.alloc (.cells #[.slice q1 o.code.length q2, .slice q4 o.syms.length q5, .slice q7 o.rels.length q8] 26) := ⟨_, rfl⟩
  have HP0 := Lib.hid (hp.go (W' := V) (by rw [hV]; exact oalloc _ _))
  have HK0 := Lib.hid (KeepT.of (W := W) (W' := V) (by rw [hV]; exact oalloc _ _))
  have HOB : Hid (V.heap[W.heap.size]? = some (.cells #[.slice q1 o.code.length q2, .slice q4 o.syms.length q5, .slice q7 o.rels.length q8] 26 (0, 0))) := by unfold Hid; rw [hV]; exact blk_new _ _ _
  have g1 := blk_cell (i := 2) HOB.out rfl
  have HV := Lib.hid hV
  clear q3 q6 q9 ho hw hp hcl hV hfit
  go_enter Try.func46, Try.ntmps46
  go_wp2_with fail
  rw [← HV.out]
  clear HV
  go_loopw [16] (fun i X => ∃ (j : Nat) (b' : List UInt8), j ≤ o.rels.length ∧ i = .int .i64 j ∧ Hid (b'.length = b.length) ∧ Hid (KeepT W X) ∧ Hid (LP w1 X base b' s bv sv mb c1 c2 D) ∧ Hid (putRels s base A b o.rels = putRels s base A b' (o.rels.drop j))) (fun i _ => o.rels.length - (intOf i).toNat)
  case atStart => exact ⟨0, b, Nat.zero_le _, rfl, rfl, HK0, HP0, rfl⟩
  case round =>
    obtain ⟨j, b', hj, rfl, HBL, HK, HP, HE⟩ := hrel
    clear HK0 HP0 g1 HOB
    by_cases hjl : j < o.rels.length
    · have hj1 : (j : Int) < o.rels.length := by omega
      obtain ⟨ad2, cap2, e2, _, hrc⟩ := HIN.out.2.2
      cases e2
      obtain ⟨rb, ro, hq7, hrb, hrcell⟩ := hrc (by omega)
      subst hq7
      obtain ⟨y0, y1, y2, y3⟩ := hrcell j hjl
      rw [← HP.out.lo.bel.cell (by exact hrb)] at y0 y1 y2 y3
      have hrbw : rb < wr.heap.size := Nat.lt_of_lt_of_le hrb HP.out.lo.bel.size
      obtain ⟨hz24, hp0, hp1, hpc, hnm⟩ := HRR.out o.rels[j] (List.getElem_mem hjl)
      have hbv : ∃ g n0 cap, bv = .slice (some ⟨g, 0, none⟩) n0 cap := by
        rcases HP.out.lo.by'.1.2 with ⟨_, h0⟩ | ⟨g, cap, cur, h0, _⟩
        · have := HBL.out
          have := HFIT.out
          exact absurd h0 (by omega)
        · exact ⟨g, _, cap, h0⟩
      obtain ⟨g, n0, cap, rfl⟩ := hbv
      have HERR := Lib.hid (fun (X : World) (hk : KeepT W X) (hb : Below w1.heap.size w1 X) (x : Int) (hx : x ≠ 0) (h : putRel s base A b' o.rels[j] = .error x) => told_err (bv := .slice (some ⟨g, 0, none⟩) n0 cap) (sv := sv) (mb := mb) (c1 := c1) (c2 := c2) (D := D) hk hb hx hjl HE.out h)
      have HOK : Hid (∀ b2, putRel s base A b' o.rels[j] = .ok b2 → putRels s base A b o.rels = putRels s base A b2 (o.rels.drop (j + 1))) := fun b2 h => by rw [HE.out, putRels_at hjl, h]
      have hrnl : o.rels[j].name.length ≤ maxLen := by
        unfold maxLen
        rcases hnm with h | h
        · rw [h]; simp
        · have := nameR_len10 h
          omega
      clear hrcell hrc hnm HE
      generalize o.rels[j] = r at *
      obtain ⟨rp, rz, rn, ra⟩ := r
      simp only at y0 y1 y2 y3 hz24 hp0 hp1 hpc hrnl
      obtain ⟨sz, rfl⟩ : ∃ sz : Nat, rz = sz := ⟨rz.toNat, by omega⟩
      have HASK := Lib.hid (fun (X : World) (hx : LP w1 X base b' s (.slice (some ⟨g, 0, none⟩) n0 cap) sv mb c1 c2 D) => asked_any ⟨rp, sz, rn, ra⟩ A s mb D X (by omega) hx.mp hx.pm hrnl hz24)
      simp only at HASK
      have HPA := Lib.hid (HP.out.go (oalloc wr (.cells #[.int .i64 rp, .int .i64 (sz : Int), .string ⟨rn.toArray⟩, .int .i64 ra] 51)))
      have HKA := Lib.hid (HK.out.trans (KeepT.of (oalloc wr (.cells #[.int .i64 rp, .int .i64 (sz : Int), .string ⟨rn.toArray⟩, .int .i64 ra] 51))))
      have HBX := Lib.hid (blk_new wr #[.int .i64 rp, .int .i64 (sz : Int), .string ⟨rn.toArray⟩, .int .i64 ra] 51)
      have m2 := blk_cell (i := 0) HPA.out.q2 rfl
      have m2' := blk_cell (i := 0) HP.out.q2 rfl
      have hzc2 : c2 < wr.heap.size := (Array.getElem?_eq_some_iff.1 HP.out.q2).1
      have hsz6 : sz ≤ 6 := by omega
      have hsz0 : 0 < sz := by omega
      clear HP HK hrnl hz24
      obtain ⟨p, HPP⟩ : ∃ p, Hid ((if rn = [] then A else whereL rn s) = p) := ⟨_, rfl⟩
      by_cases hpn : p < 0
      · have HD := Lib.hid (fun (X : World) hk hb => HERR.out X hk hb 6 (by decide) (putRel_err HPP.out hpn))
        clear HERR HOK
        go_wp2_with (first | (go_at_call 47; refine (HASK.out _ HPA.out).mono ?_; rintro e w4 ⟨n, x, rfl, hb4, hask⟩; obtain rfl := asked_x6 hask HPP.out hpn; have HP4 := Lib.hid (HPA.out.go hb4); have HK4 := Lib.hid (HKA.out.trans (KeepT.of hb4)); have HB4 := Lib.hid ((hb4.block _ (by simp)).trans HBX.out); clear hb4 hask HPA HKA HBX HASK m2) | fail)
        go_ret
        exact HD.out _ HK4.out HP4.out.lo.bel
      · by_cases hfar : (sz : Int) = 2 ∧ (65535 < wrap32 (p + ra) ∨ wrap32 (p + ra) < -32768)
        · have HF := Lib.hid hfar
          clear hfar
          have HD := Lib.hid (fun (X : World) hk hb => HERR.out X hk hb 3 (by decide) (putRel_far HPP.out hpn HF.out))
          clear HERR HOK
          go_wp2_with (first | (go_at_call 47; refine (HASK.out _ HPA.out).mono ?_; rintro e w4 ⟨n, x, rfl, hb4, hask⟩; obtain rfl := asked_x3 hask HPP.out hpn HF.out; have HP4 := Lib.hid (HPA.out.go hb4); have HK4 := Lib.hid (HKA.out.trans (KeepT.of hb4)); have HB4 := Lib.hid ((hb4.block _ (by simp)).trans HBX.out); clear hb4 hask HPA HKA HBX HASK m2) | fail)
          go_ret
          exact HD.out _ HK4.out HP4.out.lo.bel
        · have HOK2 := Lib.hid (HOK.out _ (putRel_ok HPP.out hpn hfar))
          obtain ⟨nn, hnn⟩ : ∃ nn, nn = wrap32 (p + ra) := ⟨_, rfl⟩
          have HAX := Lib.hid (fun n x (h : AskedR s A ⟨rp, sz, rn, ra⟩ n x) => asked_x0 h HPP.out hpn hfar)
          simp only at HAX HOK2
          rw [← hnn] at HOK2 HAX
          clear hnn HERR HOK HPP hpn hfar
          obtain ⟨fr, hfr⟩ : ∃ fr : Nat, (fr : Int) = A - base + rp := ⟨(A - base + rp).toNat, by omega⟩
          have hfl : fr + sz ≤ b'.length := by have := HBL.out; have := HFIT.out; omega
          have hbl2 : b'.length ≤ 2000000 := by have := HBL.out; omega
          rw [← hfr] at HOK2
          have HFR := Lib.hid hfr
          clear hfr
          go_wp2_with (first | (go_at_call 47; refine (HASK.out _ HPA.out).mono ?_; rintro e w4 ⟨n, x, rfl, hb4, hask⟩; obtain ⟨rfl, rfl⟩ := HAX.out _ _ hask; have HP4 := Lib.hid (HPA.out.go hb4); have HK4 := Lib.hid (HKA.out.trans (KeepT.of hb4)); have HB4 := Lib.hid ((hb4.block _ (by simp)).trans HBX.out); clear hb4 hask HPA HKA HBX HASK m2) | fail)
          have HPw4 := HP4
          have HKw4 := HK4
          have HBw4 := HB4
          clear HP4 HK4 HB4 HAX
          obtain ⟨cur, hn0', hcur, hcs, hcp, hct, hgf⟩ := HPw4.out.cur
          have HCw4 := Lib.hid hcur
          have HCT := Lib.hid hct
          have HN0 := Lib.hid hn0'
          have HGF := Lib.hid hgf
          have hn02 : n0 ≤ 2000000 := by omega
          have hfl2 : fr + sz ≤ n0 := by omega
          have hcp2 : n0 ≤ cap := by omega
          clear hcur hct hn0' hgf
          have hS1 : w4.heap[c1]? = some (.cells #[.pointer (some ⟨w1.heap.size, 0, none⟩)] 70 (0, 0)) ∧ w4.heap[w1.heap.size]? = some (.cells #[.int .i64 base, .slice (some ⟨g, 0, none⟩) n0 cap, sv] 38 (0, 0)) ∧ w4.heap[wr.heap.size]? = some (.cells #[.int .i64 rp, .int .i64 (sz : Int), .string ⟨rn.toArray⟩, .int .i64 ra] 51 (0, 0)) := ⟨HPw4.out.q1, HPw4.out.lo.box, HBw4.out⟩
          refine wp_region_noPanic ?_
          refine wp_region_held_drew (S := fun X => X.heap[c1]? = some (.cells #[.pointer (some ⟨w1.heap.size, 0, none⟩)] 70 (0, 0)) ∧ X.heap[w1.heap.size]? = some (.cells #[.int .i64 base, .slice (some ⟨g, 0, none⟩) n0 cap, sv] 38 (0, 0)) ∧ X.heap[wr.heap.size]? = some (.cells #[.int .i64 rp, .int .i64 (sz : Int), .string ⟨rn.toArray⟩, .int .i64 ra] 51 (0, 0))) (by kernel_rfl) hS1 (fun hHeld => ?_)
          obtain ⟨X1, hV2⟩ : ∃ X, X = w4.drew := ⟨_, rfl⟩
          have hbV : Below w4.heap.size w4 X1 := by rw [hV2]; exact (Below.refl _ _).drew
          have HPX1 := Lib.hid (HPw4.out.go hbV)
          have HKX1 := Lib.hid (HKw4.out.trans (KeepT.of hbV))
          have HCX1 := Lib.hid ((hbV.block g (Array.getElem?_eq_some_iff.1 HCw4.out).1).trans HCw4.out)
          have HBX1 := Lib.hid ((hbV.block _ (Array.getElem?_eq_some_iff.1 HBw4.out).1).trans HBw4.out)
          rw [← hV2] at hHeld ⊢
          clear hV2 hbV HPw4 HKw4 HCw4 HBw4 hS1
          refine take_at 0 30 (v := ?_) rfl rfl (by kernel_rfl) (by kernel_rfl) (by kernel_rfl) (fun _ _ _ h => h) rfl ?_ hHeld ?_
          rotate_left
          · intro w hSw
            go_simp
            try with_reducible rfl
          simp only [List.setIfInBounds_toArray, List.set_cons_zero, List.set_cons_succ]
          refine take_at 1 31 (v := ?_) rfl rfl (by kernel_rfl) (by kernel_rfl) (by kernel_rfl) (fun _ _ _ h => h) rfl ?_ hHeld ?_
          rotate_left
          · intro w hSw
            have x1 := cell_of_block (i := 0) hSw.1 rfl
            go_simp
            try with_reducible rfl
          simp only [List.setIfInBounds_toArray, List.set_cons_zero, List.set_cons_succ]
          refine take_at 2 32 (v := ?_) rfl rfl (by kernel_rfl) (by kernel_rfl) (by kernel_rfl) (fun _ _ _ h => h) rfl ?_ hHeld ?_
          rotate_left
          · intro w hSw
            go_simp
            try with_reducible rfl
          simp only [List.setIfInBounds_toArray, List.set_cons_zero, List.set_cons_succ]
          refine take_at 3 33 (v := ?_) rfl rfl (by kernel_rfl) (by kernel_rfl) (by kernel_rfl) (fun _ _ _ h => h) rfl ?_ hHeld ?_
          rotate_left
          · intro w hSw
            go_simp
            try with_reducible rfl
          simp only [List.setIfInBounds_toArray, List.set_cons_zero, List.set_cons_succ]
          refine take_at 4 34 (v := ?_) rfl rfl (by kernel_rfl) (by kernel_rfl) (by kernel_rfl) (fun _ _ _ h => h) rfl ?_ hHeld ?_
          rotate_left
          · intro w hSw
            have y0 := cell_of_block (i := 0) hSw.2.1 rfl
            have y1 := cell_of_block (i := 1) hSw.2.1 rfl
            go_simp
            try with_reducible rfl
          simp only [List.setIfInBounds_toArray, List.set_cons_zero, List.set_cons_succ]
          refine take_at 5 35 (v := .int .i64 (A - base)) rfl rfl (by kernel_rfl) (by kernel_rfl) (by kernel_rfl) (fun _ _ _ h => h) rfl ?_ hHeld ?_
          · intro w hSw
            go_simp
            try (have := HFR.out; rw [IntKind.wrap_i64]; first | omega | (congr 2; omega))
          simp only [List.setIfInBounds_toArray, List.set_cons_zero, List.set_cons_succ]
          refine take_at 6 36 (v := ?_) rfl rfl (by kernel_rfl) (by kernel_rfl) (by kernel_rfl) (fun _ _ _ h => h) rfl ?_ hHeld ?_
          rotate_left
          · intro w hSw
            go_simp
            try with_reducible rfl
          simp only [List.setIfInBounds_toArray, List.set_cons_zero, List.set_cons_succ]
          refine take_at 7 37 (v := ?_) rfl rfl (by kernel_rfl) (by kernel_rfl) (by kernel_rfl) (fun _ _ _ h => h) rfl ?_ hHeld ?_
          rotate_left
          · intro w hSw
            have z0 := cell_of_block (i := 0) hSw.2.2 rfl
            have z1 := cell_of_block (i := 1) hSw.2.2 rfl
            go_simp
            try with_reducible rfl
          simp only [List.setIfInBounds_toArray, List.set_cons_zero, List.set_cons_succ]
          refine take_at 8 38 (v := .int .i64 (fr : Int)) rfl rfl (by kernel_rfl) (by kernel_rfl) (by kernel_rfl) (fun _ _ _ h => h) rfl ?_ hHeld ?_
          · intro w hSw
            go_simp
            try (have := HFR.out; rw [IntKind.wrap_i64]; first | omega | (congr 2; omega))
          simp only [List.setIfInBounds_toArray, List.set_cons_zero, List.set_cons_succ]
          refine take_at 9 11 (v := ?_) rfl rfl (by kernel_rfl) (by kernel_rfl) (by kernel_rfl) (fun _ _ _ h => h) rfl ?_ hHeld ?_
          rotate_left
          · intro w hSw
            go_simp
            try with_reducible rfl
          simp only [List.setIfInBounds_toArray, List.set_cons_zero, List.set_cons_succ]
          refine wpAnyH_done (by kernel_rfl) ?_ _
          refine NoPanic.normal ?_
          clear hHeld
          go_wp2_with fail
          have hS2 : X1.heap[c1]? = some (.cells #[.pointer (some ⟨w1.heap.size, 0, none⟩)] 70 (0, 0)) ∧ X1.heap[w1.heap.size]? = some (.cells #[.int .i64 base, .slice (some ⟨g, 0, none⟩) n0 cap, sv] 38 (0, 0)) ∧ X1.heap[wr.heap.size]? = some (.cells #[.int .i64 rp, .int .i64 (sz : Int), .string ⟨rn.toArray⟩, .int .i64 ra] 51 (0, 0)) := ⟨HPX1.out.q1, HPX1.out.lo.box, HBX1.out⟩
          refine wp_region_noPanic ?_
          refine wp_region_held_drew (S := fun X => X.heap[c1]? = some (.cells #[.pointer (some ⟨w1.heap.size, 0, none⟩)] 70 (0, 0)) ∧ X.heap[w1.heap.size]? = some (.cells #[.int .i64 base, .slice (some ⟨g, 0, none⟩) n0 cap, sv] 38 (0, 0)) ∧ X.heap[wr.heap.size]? = some (.cells #[.int .i64 rp, .int .i64 (sz : Int), .string ⟨rn.toArray⟩, .int .i64 ra] 51 (0, 0))) (by kernel_rfl) hS2 (fun hHeld => ?_)
          obtain ⟨X2, hV2⟩ : ∃ X, X = X1.drew := ⟨_, rfl⟩
          have hbV : Below X1.heap.size X1 X2 := by rw [hV2]; exact (Below.refl _ _).drew
          have HPX2 := Lib.hid (HPX1.out.go hbV)
          have HKX2 := Lib.hid (HKX1.out.trans (KeepT.of hbV))
          have HCX2 := Lib.hid ((hbV.block g (Array.getElem?_eq_some_iff.1 HCX1.out).1).trans HCX1.out)
          have HBX2 := Lib.hid ((hbV.block _ (Array.getElem?_eq_some_iff.1 HBX1.out).1).trans HBX1.out)
          rw [← hV2] at hHeld ⊢
          clear hV2 hbV HPX1 HKX1 HCX1 HBX1 hS2
          refine take_at 0 39 (v := ?_) rfl rfl (by kernel_rfl) (by kernel_rfl) (by kernel_rfl) (fun _ _ _ h => h) rfl ?_ hHeld ?_
          rotate_left
          · intro w hSw
            have x1 := cell_of_block (i := 0) hSw.1 rfl
            go_simp
            try with_reducible rfl
          simp only [List.setIfInBounds_toArray, List.set_cons_zero, List.set_cons_succ]
          refine take_at 1 40 (v := ?_) rfl rfl (by kernel_rfl) (by kernel_rfl) (by kernel_rfl) (fun _ _ _ h => h) rfl ?_ hHeld ?_
          rotate_left
          · intro w hSw
            go_simp
            try with_reducible rfl
          simp only [List.setIfInBounds_toArray, List.set_cons_zero, List.set_cons_succ]
          refine take_at 2 41 (v := ?_) rfl rfl (by kernel_rfl) (by kernel_rfl) (by kernel_rfl) (fun _ _ _ h => h) rfl ?_ hHeld ?_
          rotate_left
          · intro w hSw
            go_simp
            try with_reducible rfl
          simp only [List.setIfInBounds_toArray, List.set_cons_zero, List.set_cons_succ]
          refine take_at 3 42 (v := ?_) rfl rfl (by kernel_rfl) (by kernel_rfl) (by kernel_rfl) (fun _ _ _ h => h) rfl ?_ hHeld ?_
          rotate_left
          · intro w hSw
            have y0 := cell_of_block (i := 0) hSw.2.1 rfl
            have y1 := cell_of_block (i := 1) hSw.2.1 rfl
            go_simp
            try with_reducible rfl
          simp only [List.setIfInBounds_toArray, List.set_cons_zero, List.set_cons_succ]
          refine take_at 4 43 (v := ?_) rfl rfl (by kernel_rfl) (by kernel_rfl) (by kernel_rfl) (fun _ _ _ h => h) rfl ?_ hHeld ?_
          rotate_left
          · intro w hSw
            go_simp
            try with_reducible rfl
          simp only [List.setIfInBounds_toArray, List.set_cons_zero, List.set_cons_succ]
          refine take_at 5 44 (v := ?_) rfl rfl (by kernel_rfl) (by kernel_rfl) (by kernel_rfl) (fun _ _ _ h => h) rfl ?_ hHeld ?_
          rotate_left
          · intro w hSw
            go_simp
            try with_reducible rfl
          simp only [List.setIfInBounds_toArray, List.set_cons_zero, List.set_cons_succ]
          refine take_at 6 45 (v := ?_) rfl rfl (by kernel_rfl) (by kernel_rfl) (by kernel_rfl) (fun _ _ _ h => h) rfl ?_ hHeld ?_
          rotate_left
          · intro w hSw
            go_simp
            try with_reducible rfl
          simp only [List.setIfInBounds_toArray, List.set_cons_zero, List.set_cons_succ]
          refine take_at 7 46 (v := ?_) rfl rfl (by kernel_rfl) (by kernel_rfl) (by kernel_rfl) (fun _ _ _ h => h) rfl ?_ hHeld ?_
          rotate_left
          · intro w hSw
            have z0 := cell_of_block (i := 0) hSw.2.2 rfl
            have z1 := cell_of_block (i := 1) hSw.2.2 rfl
            go_simp
            try with_reducible rfl
          simp only [List.setIfInBounds_toArray, List.set_cons_zero, List.set_cons_succ]
          refine take_at 8 47 (v := .int .i64 ((fr + sz : Nat) : Int)) rfl rfl (by kernel_rfl) (by kernel_rfl) (by kernel_rfl) (fun _ _ _ h => h) rfl ?_ hHeld ?_
          · intro w hSw
            go_simp
            try (have := HFR.out; rw [IntKind.wrap_i64]; first | omega | (congr 2; omega))
          simp only [List.setIfInBounds_toArray, List.set_cons_zero, List.set_cons_succ]
          refine take_at 9 48 (v := .slice (some ⟨g, fr, none⟩) sz (cap - fr)) rfl rfl (by kernel_rfl) (by kernel_rfl) (by kernel_rfl) (fun _ _ _ h => h) rfl ?_ hHeld ?_
          · intro w hSw
            go_simp
            rw [if_pos (by omega), if_pos (by omega), if_neg (by omega), show ((fr : Int) + (sz : Int)).toNat - fr = sz by omega]
          simp only [List.setIfInBounds_toArray, List.set_cons_zero, List.set_cons_succ]
          refine take_at 10 12 (v := ?_) rfl rfl (by kernel_rfl) (by kernel_rfl) (by kernel_rfl) (fun _ _ _ h => h) rfl ?_ hHeld ?_
          rotate_left
          · intro w hSw
            go_simp
            try with_reducible rfl
          simp only [List.setIfInBounds_toArray, List.set_cons_zero, List.set_cons_succ]
          refine wpAnyH_done (by kernel_rfl) ?_ _
          refine NoPanic.normal ?_
          clear hHeld
          have HPUT := Lib.hid (Oi.put_any (some ⟨g, fr, none⟩) sz (cap - fr) (fun i => byF b' (fr + i)) 0 sz n X2 (by omega) (fun _ => ⟨g, fr, rfl, fun i hi => blk_cell HCX2.out (cur_byte HCT.out (by omega))⟩) (by omega) (by omega) (by decide) (by decide))
          have z1 : X2.cell? ⟨wr.heap.size, 1, none⟩ = some (.int .i64 (sz : Int)) := blk_cell HBX2.out rfl
          have hgz : g < X2.heap.size := (Array.getElem?_eq_some_iff.1 HCX2.out).1
          obtain ⟨cs, hcs'⟩ : ∃ cs, cs = (List.range sz).map (fun i => (Value.int .u8 (Oi.putAt (fun i => byF b' (fr + i)) 0 sz n i))) := ⟨_, rfl⟩
          have HCS := Lib.hid hcs'
          have hcsl : cs.length = sz := by rw [hcs']; simp
          have hone : ∀ v ∈ cs, v.oneCell' = true := by
            intro v hv
            rw [hcs'] at hv
            obtain ⟨i, _, rfl⟩ := List.mem_map.1 hv
            rfl
          clear hcs'
          go_wp2_with (first | (go_at_call 41; refine HPUT.out.mono ?_; rintro e w6 ⟨rfl, hb6, hz6, hc6⟩; have HP6 := Lib.hid (HPX2.out.go hb6); have HK6 := Lib.hid (HKX2.out.trans (KeepT.of hb6)); have HC6 := Lib.hid ((hb6.block g (Array.getElem?_eq_some_iff.1 HCX2.out).1).trans HCX2.out); have HS6 := Lib.hid (put_src HCS.out hc6); clear hb6 hc6) | (refine wpList_copy_grown rfl _ _ 22 22 rfl 5 Try.underlying22 Oi.size5 g fr sz (cap - fr) ⟨X2.heap.size, 0, none⟩ sz sz rfl rfl cur 5 HC6.out cs (by rw [hcsl]; exact (Nat.min_self sz).symm) HS6.out (by omega) hone ?_; intro w7 HR7 HG7) | fail)
          have hcp7 := HP6.out.copied HC6.out hfl HG7.out (x := n) (by rw [← HCS.out]; exact HR7.out)
          have HK7 := Lib.hid (HK6.out.trans hcp7.1)
          have HP7 := Lib.hid hcp7.2
          clear hcp7 HP6 HK6 HC6 HS6 HR7 HG7
          exact ⟨⟨j + 1, _, by omega, by go_num, by unfold Hid; rw [putL_len]; exact HBL.out, HK7, HP7, HOK2⟩, by simp [intOf]; omega⟩
    · have hj1 : ¬ (j : Int) < o.rels.length := by omega
      have HAE : Hid (putRels s base A b o.rels = .ok b') := by unfold Hid; rw [HE.out, List.drop_eq_nil_of_le (by omega)]; rfl
      go_wp2_with fail
      go_ret
      exact ⟨HK.out, HP.out.lo.bel, 0, rfl, .inr ⟨rfl, b', HBL.out, HAE.out, HP.out⟩⟩

end Go.Proofs.Ytalghejeekajgad
