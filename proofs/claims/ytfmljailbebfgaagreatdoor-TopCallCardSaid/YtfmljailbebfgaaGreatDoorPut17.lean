import Derived.Test.YtfmljailbebfgaaGreatDoorPut15
import Derived.Deep.QuietTactic
set_option maxHeartbeats 2000000
set_option maxRecDepth 100000
namespace Go.Proofs.YtfmljailbebfgaaGreatDoor.Si
open Go.RowKit Isa
theorem qBz (op : Int) (w : World) : Calls Tryz.prog 29 #[.int .i64 op] w fun e w' => e = .returned (.bool (qAX op)) /\ w = w' := by
 by_cases h1 : op = 2
 ·subst h1
  go_enter Tryz.func29, Tryz.ntmps29
  go_wp2
  go_ret
  exact ⟨rfl, rfl⟩
 ·have e1 : (op == 2) = false := by simp [h1]
  have HV : Hid (qAX op = (decide (17 <= op) && decide (op <= 22))) := by unfold Hid qAX; simp [h1]
  by_cases h2 : 17 <= op
  ·go_enter Tryz.func29, Tryz.ntmps29
   go_wp2
   go_ret
   exact ⟨by rw [HV.out]; simp [h2], rfl⟩
  ·have HV2 : Hid (qAX op = false) := by unfold Hid; rw [HV.out]; simp; omega
   go_enter Tryz.func29, Tryz.ntmps29
   go_wp2
   go_ret
   exact ⟨by rw [HV2.out]; rfl, rfl⟩
theorem w6432 (x : Int) : wrap64 (wrap32 x) = wrap32 x := by unfold wrap64 wrap32; omega
theorem qKZ {x : Int} (h0 : -2147483648 <= x) (h1 : x <= 2147483647) : wrap32 x = x := by unfold wrap32; omega
theorem qFv (n : Int) (w : World) : Calls Tryz.prog 60 #[.int .i64 n] w fun e w' => e = .returned (.int .i64 (wrap32 n)) /\ w = w' := by
 have := qA4 n w
 rw [w6432] at this
 exact this.mono fun _ _ ⟨h1, h2⟩ => ⟨h1, h2.symm⟩
theorem qB0 (a b : Int) (w : World) (h0 : -2147483648 <= a + b) (h1 : a + b <= 2147483647) : Calls Tryz.prog 32 #[.int .i64 a, .int .i64 b] w fun e w' => e = .returned (.int .i64 (a + b)) /\ w = w' := by
 have HS : Hid (∀ W, Calls Tryz.prog 60 #[.int .i64 (a + b)] W fun e w' => e = .returned (.int .i64 (a + b)) /\ W = w') := fun W => by
  have := qFv (a + b) W
  rw [qKZ h0 h1] at this
  exact this
 go_enter Tryz.func32, Tryz.ntmps32
 go_wp2_with (first | (go_at_call 60; refine (HS.out _).mono ?_; rintro e w' ⟨rfl, rfl⟩) | fail)
 go_ret
 exact ⟨rfl, rfl⟩
theorem qEG (m : Ma) (ba : Option Addr) (bc : Nat) (sv : Value) (a size : Int) (w : World) (hs : size = 2 \/ size = 4) (hb0 : 0 <= m.base) (hb1 : m.base <= 1048576) (hl : m.by'.length <= 140737488355328) (ha0 : -4611686018427387904 <= a) (ha1 : a <= 4611686018427387904) :
  Calls Tryz.prog 49 #[.agg #[.int .i64 m.base, .slice ba m.by'.length bc, sv], .int .i64 a, .int .i64 size] w fun e w' => e = .returned (.tuple #[.int .i64 (a - m.base), .bool (hasB m a size)]) /\ Below w.heap.size w w' := by
 obtain ⟨X, hX⟩ : ∃ X, X = hasB m a size := ⟨_, rfl⟩
 rw [<- hX]
 unfold hasB at hX
 obtain ⟨V, hV⟩ : ∃ V, V = w.alloc (.cells #[.int .i64 m.base, .slice ba m.by'.length bc, sv] 36) := ⟨_, rfl⟩
 have hb : Below w.heap.size w V := by rw [hV]; exact qD _ _
 have k : V.heap[w.heap.size]? = some (.cells #[.int .i64 m.base, .slice ba m.by'.length bc, sv] 36 (0, 0)) := by rw [hV]; exact qJ _ _ _
 have c0 := qA (i := 0) k rfl
 have c1 := qA (i := 1) k rfl
 have HV := Lib.hid hV.symm
 have HB : Hid (∀ nq, Below w.heap.size w (V.drewN nq)) := fun nq => hb.trans (Go.Joins.below_draws _ V nq)
 clear hV k hb
 generalize m.base = base at *
 generalize m.by'.length = len at *
 have hsz : ¬ size = 0 := by omega
 have hsn : (size == 0) = false := by simp [hsz]
 by_cases h1 : a.tmod size = 0
 ·have h1b : (a.tmod size == 0) = true := by simp [h1]
  have h1e : a % size = 0 := Int.emod_eq_zero_of_dvd (Int.dvd_of_tmod_eq_zero h1)
  by_cases h2 : base <= a
  ·have h2b : decide (base <= a) = true := by simp; omega
   have HX : Hid (X = decide (a - base <= (len : Int) - size)) := by
    unfold Hid; rw [hX]; simp only [h2, h1e, decide_true, Bool.true_and, decide_eq_decide]; omega
   clear hX
   go_enter Tryz.func49, Tryz.ntmps49
   go_wp2_with fail
   rw [HV.out]
   go_quiet (fail)
   go_wp2
   go_ret2
   exact ⟨by rw [HX.out]; rfl, HB.out _⟩
  ·have h2b : decide (base <= a) = false := by simp; omega
   have HX : Hid (X = false) := by
    unfold Hid; rw [hX]; simp [h2]
   clear hX
   go_enter Tryz.func49, Tryz.ntmps49
   go_wp2_with fail
   rw [HV.out]
   go_quiet (fail)
   go_wp2
   go_ret2
   exact ⟨by rw [HX.out]; rfl, HB.out _⟩
 ·have h1b : (a.tmod size == 0) = false := by simp [h1]
  have h1e : ¬ a % size = 0 := fun h => h1 (Int.tmod_eq_zero_of_dvd (Int.dvd_of_emod_eq_zero h))
  have HX : Hid (X = false) := by
   unfold Hid; rw [hX]; simp [h1e]
  clear hX
  go_enter Tryz.func49, Tryz.ntmps49
  go_wp2_with fail
  rw [HV.out]
  go_quiet (fail)
  go_wp2
  go_ret2
  exact ⟨by rw [HX.out]; rfl, HB.out _⟩
def qLL (op imm n m : Int) : Int :=
 if op = 3 then imm else if op = 4 then wrap32 (n + imm) else if op = 5 then m else if op = 6 then wrap32 (n + m) else if op = 7 then wrap32 (n - m)
 else if op = 8 then bits .and .i32 n m else if op = 9 then bits .or .i32 n m else if op = 10 then bits .xor .i32 n m else n
theorem made_any (op a b imm n m : Int) (w : World) (h : op = 1 \/ (3 <= op /\ op <= 10)) (hi0 : -10000 <= imm) (hi1 : imm <= 10000) (h0 : -2147483648 <= n) (h1 : n <= 2147483647) (h2 : -2147483648 <= m) (h3 : m <= 2147483647) :
  Calls Tryz.prog 59 #[.agg #[.int .i64 op, .int .i64 a, .int .i64 b, .int .i64 imm], .int .i64 n, .int .i64 m] w fun e w' => e = .returned (.int .i64 (qLL op imm n m)) /\ Below w.heap.size w w' := by
 have HS := Lib.hid qFv
 have HA := Lib.hid (and_ext n m h0 h1 h2 h3)
 have HO := Lib.hid (or_ext n m h0 h1 h2 h3)
 have HX := Lib.hid (xor_ext n m h0 h1 h2 h3)
 have HB : Hid (∀ o, Below w.heap.size w (w.alloc o)) := fun o => qD w o
 obtain rfl | rfl | rfl | rfl | rfl | rfl | rfl | rfl | rfl : op = 1 \/ op = 3 \/ op = 4 \/ op = 5 \/ op = 6 \/ op = 7 \/ op = 8 \/ op = 9 \/ op = 10 := by omega
 all_goals
  go_enter Tryz.func59, Tryz.ntmps59
  go_wp2_with (first | (go_at_call 60; refine (HS.out _ _).mono ?_; rintro e w' ⟨rfl, rfl⟩) | fail)
  go_ret
  refine ⟨?_, HB.out _⟩
  first | rfl | (show Ending.returned (Value.int .i64 (bits .and .i64 n m)) = _; rw [HA.out]; rfl) | (show Ending.returned (Value.int .i64 (bits .or .i64 n m)) = _; rw [HO.out]; rfl) | (show Ending.returned (Value.int .i64 (bits .xor .i64 n m)) = _; rw [HX.out]; rfl)
theorem qCh (m : Ma) (ba : Option Addr) (bc : Nat) (sv : Value) (a : Int) (w : World) (hR : BRd w ba m.by') (hL : Laid w) (hb0 : 0 <= m.base) (hb1 : m.base <= 1048576) (hl : m.by'.length <= 140737488355328) (ha0 : -4611686018427387904 <= a) (ha1 : a <= 4611686018427387904) :
  Calls Tryz.prog 28 #[.agg #[.int .i64 m.base, .slice ba m.by'.length bc, sv], .int .i64 a] w fun e w' => e = .returned (.tuple #[.agg #[.int .i64 (fV m a 0), .int .i64 (fV m a 1), .int .i64 (fV m a 2), .int .i64 (fV m a 3)], .int .i64 (qe m a)]) /\ Below w.heap.size w w' := by
 obtain ⟨V, hV⟩ : ∃ V, V = (w.alloc (.cells #[.int .i64 m.base, .slice ba m.by'.length bc, sv] 36)).alloc (.cells #[.int .i64 0, .int .i64 0, .int .i64 0, .int .i64 0] 73) := ⟨_, rfl⟩
 have hV0 : Below w.heap.size w V := by rw [hV]; exact (qD _ _).trans ((qD _ _).mono (by simp))
 have hV1 : V.heap[w.heap.size]? = some (.cells #[.int .i64 m.base, .slice ba m.by'.length bc, sv] 36 (0, 0)) := by rw [hV, (qD _ _).block _ (by simp)]; exact qJ _ _ _
 have hV2 : V.heap[w.heap.size + 1]? = some (.cells #[.int .i64 0, .int .i64 0, .int .i64 0, .int .i64 0] 73 (0, 0)) := by
  rw [hV]
  have := qJ (w.alloc (.cells #[.int .i64 m.base, .slice ba m.by'.length bc, sv] 36)) #[.int .i64 0, .int .i64 0, .int .i64 0, .int .i64 0] 73
  simpa using this
 have HH := Lib.hid (qEG m ba bc sv a 2 V (Or.inl rfl) hb0 hb1 hl ha0 ha1)
 have c0 := qA (i := 0) hV1 rfl
 have c1 := qA (i := 1) hV1 rfl
 have c2 := qA (i := 2) hV1 rfl
 have HV := Lib.hid hV.symm
 clear hV
 have HV0 := Lib.hid hV0
 have HV1 := Lib.hid hV1
 have HV2 := Lib.hid hV2
 have hlt1 := (Array.getElem?_eq_some_iff.1 hV1).1
 have hlt2 := (Array.getElem?_eq_some_iff.1 hV2).1
 clear hV0 hV1 hV2
 by_cases hh : hasB m a 2 = true
 ·have e0 : fV m a 0 = dV (qBc m a) 0 := by unfold fV; rw [if_pos hh]
  have e1 : fV m a 1 = dV (qBc m a) 1 := by unfold fV; rw [if_pos hh]
  have e2 : fV m a 2 = dV (qBc m a) 2 := by unfold fV; rw [if_pos hh]
  have e3 : fV m a 3 = dV (qBc m a) 3 := by unfold fV; rw [if_pos hh]
  have e4 : qe m a = decE (qBc m a) := by unfold qe; rw [if_pos hh]
  rw [e0, e1, e2, e3, e4]
  obtain ⟨q1, q2, q3⟩ := qFn hh
  have HG : Hid (∀ W, Below w.heap.size w W -> Calls Tryz.prog 51 #[.slice ba m.by'.length bc, .int .i64 (a - m.base), .int .i64 2] W fun e w' => e = .returned (.int .i64 (qBc m a)) /\ W = w') := fun W hb => (qKj ba m.by'.length bc (bsOf m.by') (a - m.base) 2 W (qDL _) (by unfold maxLen; omega) (fun h => by
   obtain ⟨b, off, e, _, hc⟩ := (hR.next hb) h
   exact ⟨b, off, e, hc⟩) (by omega) (by omega) (by omega) (by omega)).mono fun _ _ ⟨h1, h2⟩ => ⟨h1, h2.symm⟩
  have HD : Hid (∀ W, Below w.heap.size w W -> Calls Tryz.prog 50 #[.int .i64 (qBc m a)] W fun e w' => e = .returned (.tuple #[.agg #[.int .i64 (dV (qBc m a) 0), .int .i64 (dV (qBc m a) 1), .int .i64 (dV (qBc m a) 2), .int .i64 (dV (qBc m a) 3)], .int .i64 (decE (qBc m a))]) /\ Below W.heap.size W w') := fun W hb => by
   have := qJM (qBc m a) W (hL.below hb hL.sz)
   rw [(dV_all (qBc m a)).1] at this
   exact this
  rw [hh] at HH
  clear hh e0 e1 e2 e3 e4 hR hL q1 q2 q3
  generalize qBc m a = x at *
  generalize decE x = ee at *
  generalize dV x 0 = d0 at *
  generalize dV x 1 = d1 at *
  generalize dV x 2 = d2 at *
  generalize dV x 3 = d3 at *
  go_enter Tryz.func28, Tryz.ntmps28
  go_upto_region 1 with fail
  rw [HV.out]
  go_wp2_with (first | (go_at_call 49; refine HH.out.mono ?_; rintro e W1 ⟨rfl, hb1⟩; have k1 := (hb1.block _ hlt1).trans HV1.out; have K2 := Lib.hid ((hb1.block _ hlt2).trans HV2.out); have c20 : W1.cell? ⟨w.heap.size, 1, none⟩ = some (.slice ba m.by'.length bc) := qA (i := 1) k1 rfl; have HB1 := Lib.hid (HV0.out.trans (hb1.mono HV0.out.size)); clear hb1 k1) | (go_at_call 51; refine (HG.out _ HB1.out).mono ?_; rintro e w' ⟨rfl, rfl⟩) | (go_at_call 50; refine (HD.out _ HB1.out).mono ?_; rintro e W2 ⟨rfl, hb2⟩; have kk := (hb2.block _ (Array.getElem?_eq_some_iff.1 K2.out).1).trans K2.out; have HB2 := Lib.hid (HB1.out.trans (hb2.mono HB1.out.size)); have z0 := qE (i := 0) kk; have z1 := qE (i := 1) kk; have z2 := qE (i := 2) kk; have z3 := qE (i := 3) kk; have y0 : W2.cell? ⟨w.heap.size + 1, 0, none⟩ = some (.int .i64 0) := qA (i := 0) kk rfl; have y1 : W2.cell? ⟨w.heap.size + 1, 1, none⟩ = some (.int .i64 0) := qA (i := 1) kk rfl; have y2 : W2.cell? ⟨w.heap.size + 1, 2, none⟩ = some (.int .i64 0) := qA (i := 2) kk rfl; have y3 : W2.cell? ⟨w.heap.size + 1, 3, none⟩ = some (.int .i64 0) := qA (i := 3) kk rfl; have hlt := (Array.getElem?_eq_some_iff.1 kk).1; clear hb2 kk) | fail)
  refine bodyPost_ret (v := .tuple #[.agg #[.int .i64 d0, .int .i64 d1, .int .i64 d2, .int .i64 d3], .int .i64 ee]) (by simp [results, Tryz.results28, go_sem, y0, y1, y2, y3]) rfl ⟨rfl, four HB2.out (Nat.le_succ _) _ _ _ _⟩
 ·have hh' : hasB m a 2 = false := by simpa using hh
  have e : ∀ i, fV m a i = 0 := fun i => by unfold fV; rw [if_neg hh]
  have e4 : qe m a = 6 := by unfold qe; rw [if_neg hh]
  rw [e, e, e, e, e4]
  rw [hh'] at HH
  clear hh hh' e e4 hR hL
  go_enter Tryz.func28, Tryz.ntmps28
  go_upto_region 1 with fail
  rw [HV.out]
  go_wp2_with (first | (go_at_call 49; refine HH.out.mono ?_; rintro e W2 ⟨rfl, hb1⟩; have kk := (hb1.block _ hlt2).trans HV2.out; have z0 := qE (i := 0) kk; have z1 := qE (i := 1) kk; have z2 := qE (i := 2) kk; have z3 := qE (i := 3) kk; have y0 : W2.cell? ⟨w.heap.size + 1, 0, none⟩ = some (.int .i64 0) := qA (i := 0) kk rfl; have y1 : W2.cell? ⟨w.heap.size + 1, 1, none⟩ = some (.int .i64 0) := qA (i := 1) kk rfl; have y2 : W2.cell? ⟨w.heap.size + 1, 2, none⟩ = some (.int .i64 0) := qA (i := 2) kk rfl; have y3 : W2.cell? ⟨w.heap.size + 1, 3, none⟩ = some (.int .i64 0) := qA (i := 3) kk rfl; have hlt := (Array.getElem?_eq_some_iff.1 kk).1; have HB1 := Lib.hid (HV0.out.trans (hb1.mono HV0.out.size)); clear hb1 kk) | fail)
  refine bodyPost_ret (v := .tuple #[.agg #[.int .i64 0, .int .i64 0, .int .i64 0, .int .i64 0], .int .i64 6]) (by simp [results, Tryz.results28, go_sem, y0, y1, y2, y3]) rfl ⟨rfl, four HB1.out (Nat.le_succ _) _ _ _ _⟩
def qBA (l : List UInt8) : List Value := l.map fun c => .int .u8 (c.toNat : Int)
def qAv (l : List Int) : List Value := l.map fun c => .int .i64 c
theorem qJr (l : List UInt8) : (qBA l).length = l.length := by simp [qBA]
theorem qE8 (l : List Int) : (qAv l).length = l.length * 1 := by simp [qAv]
theorem qJa (l : List UInt8) : ∀ v ∈ qBA l, v.oneCell' = true := by
 intro v hv
 obtain ⟨c, _, rfl⟩ := List.mem_map.1 hv
 rfl
theorem qJk (l : List Int) : ∀ v ∈ qAv l, v.oneCell' = true := by
 intro v hv
 obtain ⟨c, _, rfl⟩ := List.mem_map.1 hv
 rfl
theorem qAb (b o j : Nat) : (⟨b, o, none⟩ : Addr).add j = ⟨b, o + j, none⟩ := by unfold Addr.add; split <;> simp_all
structure Kept (K g gb : Nat) (W W' : World) : Prop where
 os : W'.os = W.os
 tape : W'.tape = W.tape
 output : W'.output = W.output
 size : W.heap.size <= W'.heap.size
 block : ∀ q, q < K -> q ≠ g -> q ≠ gb -> W'.heap[q]? = W.heap[q]?
theorem Kept.trans {K g gb : Nat} {a b c : World} (h : Kept K g gb a b) (k : Kept K g gb b c) : Kept K g gb a c :=
 ⟨k.os.trans h.os, k.tape.trans h.tape, k.output.trans h.output, Nat.le_trans h.size k.size, fun q h1 h2 h3 => (k.block q h1 h2 h3).trans (h.block q h1 h2 h3)⟩
theorem Kept.of {K g gb B : Nat} {a b : World} (h : Below B a b) (hB : K <= B) : Kept K g gb a b := ⟨h.os, h.tape, h.output, h.size, fun q hq _ _ => h.block q (by omega)⟩
theorem Kept.below {K g gb B : Nat} {a b : World} (h : Kept K g gb a b) (h1 : B <= K) (h2 : B <= g) (h3 : B <= gb) : Below B a b := ⟨h.os, h.tape, h.output, h.size, fun q hq => h.block q (by omega) (by omega) (by omega)⟩
theorem Kept.cell {K gb : Nat} {a : World} (p : Addr) (v : Value) : Kept K p.block gb a (a.setCell p v) :=
 ⟨rfl, rfl, rfl, by simp [World.setCell], fun q _ h _ => Below.heap_setCell _ _ _ q h⟩
theorem Kept.grown {K g gb : Nat} {a b : World} {r : Option Nat} (h : a.grownBy b r) (hK : K <= a.heap.size) (hr : ∀ k, r = some k -> K <= k) : Kept K g gb a b :=
 ⟨h.os, h.tape, h.output, h.size, fun q hq _ _ => h.block q (by omega) (by intro e; have := hr q e.symm; omega)⟩
structure MR (K g : Nat) (m : Ma) (gb bc : Nat) (sv : Value) (ta : Option Addr) (tc : Nat) (W : World) : Prop where
 b1 : W.heap[g]? = some (.cells (mC m (some ⟨gb, 0, none⟩) bc sv ta tc) 43 (0, 0))
 bb : W.heap[gb]? = some (.cells (qBA m.by').toArray 5 (0, 0))
 tt : W.ownsRow K 3 1 (.slice ta m.told.length tc) m.told.length (qAv m.told)
 la : Laid W
 kz : K <= W.heap.size
 k2 : max 1 4 < K
 g2 : max 1 4 < g
 gb2 : max 1 4 < gb
theorem MR.ne {K g : Nat} {m : Ma} {gb bc : Nat} {sv : Value} {ta : Option Addr} {tc : Nat} {W : World} (h : MR K g m gb bc sv ta tc W) : g ≠ gb := by
 intro e
 have h1 := h.b1
 rw [e, h.bb] at h1
 injection h1 with h1
 injection h1 with _ h2
 exact absurd h2 (by decide)
theorem qEX {W : World} {base : Nat} {v : Value} {n : Nat} {xs : List Value} (h : W.ownsRow base 3 1 v n xs) {b : Nat} {c : Array Value} {t : TypeId} {f : Nat × Nat} (hb : W.heap[b]? = some (.cells c t f)) (ht : t ≠ 3) : v.ownBlock = none \/ v.ownBlock ≠ some b := by
 rcases h.2 with ⟨rfl, _⟩ | ⟨g, cap, cur, rfl, _, hg, _⟩
 ·exact Or.inl rfl
 ·refine Or.inr fun e => ?_
  simp only [Value.ownBlock, Option.some.injEq] at e
  rw [<- e, hg] at hb
  injection hb with hb
  injection hb with _ h2
  exact ht h2.symm
theorem qEt (W : World) (p : Addr) (v : Value) : W.grownBy (W.setCell p v) (some p.block) :=
 ⟨rfl, rfl, rfl, by simp [World.setCell], fun k _ hk => Below.heap_setCell _ _ _ k (fun e => hk (by rw [e]))⟩
theorem qLG (W : World) (g : Nat) (cs : Array Value) : W.grownBy (W.setRow g cs) (some g) :=
 ⟨rfl, rfl, rfl, by simp [World.setRow], fun k _ hk => setRow_other W g k cs (fun e => hk (by rw [e]))⟩
theorem qF7 {K g gb : Nat} {a b : World} (h : Laid a) (hk : Kept K g gb a b) (h1 : max 1 4 < K) (h2 : max 1 4 < g) (h3 : max 1 4 < gb) : Laid b :=
 h.below (hk.below (B := max 1 4 + 1) h1 h2 h3) (by omega)
section
variable {K g : Nat} {m : Ma} {gb bc : Nat} {sv : Value} {ta : Option Addr} {tc : Nat} {W : World}
theorem MR.next (h : MR K g m gb bc sv ta tc W) {W' : World} (hb : Below W.heap.size W W') : MR K g m gb bc sv ta tc W' :=
 ⟨(hb.block _ (Array.getElem?_eq_some_iff.1 h.b1).1).trans h.b1, (hb.block _ (Array.getElem?_eq_some_iff.1 h.bb).1).trans h.bb, h.tt.kept (ogbelow none hb (Nat.le_refl _)) (by cases (Value.slice ta m.told.length tc).ownBlock <;> simp), h.la.below hb h.la.sz, Nat.le_trans h.kz hb.size, h.k2, h.g2, h.gb2⟩
theorem MR.kn (h : MR K g m gb bc sv ta tc W) {W' : World} (hb : Below W.heap.size W W') : Kept K g gb W W' := Kept.of hb h.kz
theorem MR.set (h : MR K g m gb bc sv ta tc W) (k : Nat) (v : Value) (m' : Ma) (hm : (mC m (some ⟨gb, 0, none⟩) bc sv ta tc).setIfInBounds k v = mC m' (some ⟨gb, 0, none⟩) bc sv ta tc) (h1 : m'.by' = m.by') (h2 : m'.told = m.told) : MR K g m' gb bc sv ta tc (W.setCell ⟨g, k, none⟩ v) := by
 refine ⟨?_, ?_, ?_, ?_, ?_, h.k2, h.g2, h.gb2⟩
 ·rw [_root_.Go.heap_setCell_same W g k _ 43 _ h.b1, hm]
 ·rw [Below.heap_setCell _ _ _ _ (by exact fun e => h.ne e.symm), h1]
  exact h.bb
 ·rw [h2]
  exact h.tt.kept (qEt W ⟨g, k, none⟩ v) (qEX h.tt h.b1 (by decide))
 ·exact qF7 h.la (Kept.cell (K := K) (gb := gb) ⟨g, k, none⟩ v) h.k2 h.g2 h.gb2
 ·simpa [World.setCell] using h.kz
theorem MR.reg (h : MR K g m gb bc sv ta tc W) (k : Nat) (hk : k < 16) (v : Int) : MR K g (setR m k v) gb bc sv ta tc (W.setCell ⟨g, k, none⟩ (.int .i64 v)) := h.set k _ _ (mC_set m _ bc sv ta tc k hk v) rfl rfl
theorem MR.setpc (h : MR K g m gb bc sv ta tc W) (v : Int) : MR K g { m with pc := v } gb bc sv ta tc (W.setCell ⟨g, 17, none⟩ (.int .i64 v)) := h.set 17 _ _ rfl rfl rfl
theorem MR.setpr (h : MR K g m gb bc sv ta tc W) (v : Int) : MR K g { m with pr := v } gb bc sv ta tc (W.setCell ⟨g, 18, none⟩ (.int .i64 v)) := h.set 18 _ _ rfl rfl rfl
theorem MR.setst (h : MR K g m gb bc sv ta tc W) (v : Int) : MR K g { m with st := v } gb bc sv ta tc (W.setCell ⟨g, 23, none⟩ (.int .i64 v)) := h.set 23 _ _ rfl rfl rfl
theorem MR.brd (h : MR K g m gb bc sv ta tc W) : BRd W (some ⟨gb, 0, none⟩) m.by' := fun _ => by
 refine ⟨gb, 0, rfl, (Array.getElem?_eq_some_iff.1 h.bb).1, fun i hi => ?_⟩
 rw [Nat.zero_add]
 refine qA h.bb ?_
 simp [qBA, bsOf, hi, List.getD]
theorem MR.trd (h : MR K g m gb bc sv ta tc W) : TRd W ta m.told := fun h0 => by
 rcases h.tt.2 with ⟨h1, _⟩ | ⟨q, cap, cur, h1, _, hq, _⟩
 ·simp only [Value.slice.injEq] at h1
  omega
 ·simp only [Value.slice.injEq] at h1
  obtain ⟨rfl, _, _⟩ := h1
  refine ⟨q, 0, rfl, (Array.getElem?_eq_some_iff.1 hq).1, fun i hi => ?_⟩
  have := h.tt.cells (g := q) rfl i (.int .i64 (m.told.getD i 0)) (by simp [qAv, hi, List.getD])
  rw [qAb] at this
  exact this
theorem MR.rn (h : MR K g m gb bc sv ta tc W) (k : Nat) (hk : k < 16) : W.cell? ⟨g, k, none⟩ = some (.int .i64 (m.r k)) := qA (i := k) h.b1 (mC_reg m _ bc sv ta tc k hk)
theorem MR.cells (h : MR K g m gb bc sv ta tc W) : W.cell? ⟨g, 16, none⟩ = some (.bool m.t) /\ W.cell? ⟨g, 17, none⟩ = some (.int .i64 m.pc) /\ W.cell? ⟨g, 18, none⟩ = some (.int .i64 m.pr) /\ W.cell? ⟨g, 19, none⟩ = some (.int .i64 m.base) /\ W.cell? ⟨g, 20, none⟩ = some (.slice (some ⟨gb, 0, none⟩) m.by'.length bc) /\ W.cell? ⟨g, 21, none⟩ = some sv /\ W.cell? ⟨g, 22, none⟩ = some (.slice ta m.told.length tc) /\ W.cell? ⟨g, 23, none⟩ = some (.int .i64 m.st) :=
 ⟨qA (i := 16) h.b1 rfl, qA (i := 17) h.b1 rfl, qA (i := 18) h.b1 rfl, qA (i := 19) h.b1 rfl, qA (i := 20) h.b1 rfl, qA (i := 21) h.b1 rfl, qA (i := 22) h.b1 rfl, qA (i := 23) h.b1 rfl⟩
theorem MR.fz (h : MR K g m gb bc sv ta tc W) (k : Nat) : W.frozen? ⟨g, k, none⟩ = false := qE h.b1
theorem MR.lt (h : MR K g m gb bc sv ta tc W) : g < W.heap.size := (Array.getElem?_eq_some_iff.1 h.b1).1
theorem MR.keepSet (h : MR K g m gb bc sv ta tc W) {W' : World} (hb : Below W.heap.size W W') (k : Nat) (v : Value) : Kept K g gb W (W'.setCell ⟨g, k, none⟩ v) := (h.kn hb).trans (Kept.cell ⟨g, k, none⟩ v)
end
theorem Kept.mono {K K' g gb : Nat} {a b : World} (h : Kept K g gb a b) (hK : K' <= K) : Kept K' g gb a b := ⟨h.os, h.tape, h.output, h.size, fun q hq h1 h2 => h.block q (by omega) h1 h2⟩
theorem Kept.drew {K g gb : Nat} {a b : World} (h : Kept K g gb a b) : Kept K g gb a b.drew := h.trans (Kept.of ((Below.refl K b).drew) (Nat.le_refl _))
def PP (K' K g gb bc : Nat) (sv : Value) (m' : Ma) (W W' : World) : Prop := Kept K' g gb W W' /\ ∃ ta' tc', MR K g m' gb bc sv ta' tc' W'
theorem PP.drew {K' K g gb bc : Nat} {sv : Value} {m' : Ma} {W W' : World} (h : PP K' K g gb bc sv m' W W') : PP K' K g gb bc sv m' W W'.drew := by
 obtain ⟨h1, ta, tc, h2⟩ := h
 exact ⟨h1.drew, ta, tc, h2.next (Below.refl _ _).drew⟩
theorem PP.of {K' K g gb bc : Nat} {sv : Value} {m : Ma} {ta : Option Addr} {tc : Nat} {W W' : World} (h : MR K g m gb bc sv ta tc W) (hb : Below W.heap.size W W') (hK : K' <= W.heap.size) : PP K' K g gb bc sv m W W' := ⟨Kept.of hb hK, ta, tc, h.next hb⟩
theorem PP.after {K' K g gb bc : Nat} {sv : Value} {m : Ma} {W X W' : World} (hb : Below W.heap.size W X) (h : PP X.heap.size K g gb bc sv m X W') (hK : K' <= W.heap.size) : PP K' K g gb bc sv m W W' := ⟨(Kept.of hb hK).trans (h.1.mono (Nat.le_trans hK hb.size)), h.2⟩
theorem PP.reg {K' K g gb bc : Nat} {sv : Value} {m : Ma} {W W' : World} (h : PP K' K g gb bc sv m W W') (k : Nat) (hk : k < 16) (v : Int) : PP K' K g gb bc sv (setR m k v) W (W'.setCell ⟨g, k, none⟩ (.int .i64 v)) := by
 obtain ⟨h1, ta, tc, h2⟩ := h
 exact ⟨h1.trans (Kept.cell ⟨g, k, none⟩ _), ta, tc, h2.reg k hk v⟩
theorem infoI : (Tryz.prog.info? 3).map (fun i => (i.zero, i.size, i.bytes)) = some (some (.int .i64 0), 1, 8) := by kernel_rfl
theorem row_form {W : World} {base : Nat} {v : Value} {n : Nat} {xs : List Value} (h : W.ownsRow base 3 1 v n xs) : ∃ ad cap, v = .slice ad n cap := by
 rcases h.2 with ⟨rfl, h0⟩ | ⟨g, cap, cur, rfl, _⟩
 ·exact ⟨none, 0, by rw [h0]⟩
 ·exact ⟨_, _, rfl⟩
theorem MR.app {K g : Nat} {m : Ma} {gb bc : Nat} {sv : Value} {ta : Option Addr} {tc : Nat} {W : World} (h : MR K g m gb bc sv ta tc W) (b : Nat) (x : Int) (hb : W.heap[b]? = some (.cells #[.int .i64 x] 3 (0, 0))) (hl : m.told.length <= 1000000000) :
  ∃ ta' tc' W', (∀ ty, (Builtin.append_ #[22, 22] ty #[.slice ta m.told.length tc, .slice (some ⟨b, 0, none⟩) 1 1]).run Tryz.prog W = .ok (.slice ta' (m.told.length + 1) tc') W') /\ W.grownBy W' (Value.slice ta m.told.length tc).ownBlock /\ W'.cell? ⟨g, 22, none⟩ = some (.slice ta m.told.length tc) /\ W'.frozen? ⟨g, 22, none⟩ = false /\
   Kept K g gb W (W'.setCell ⟨g, 22, none⟩ (.slice ta' (m.told.length + 1) tc')) /\ MR K g { m with told := m.told ++ [x] } gb bc sv ta' tc' (W'.setCell ⟨g, 22, none⟩ (.slice ta' (m.told.length + 1) tc')) := by
 obtain ⟨i, hi, hz0, hz1, hz2⟩ := info_parts infoI
 have key := fun ty => run_append_own (P := Tryz.prog) W K 22 ty 3 i _ 1 8 Tryz.underlying22 hi hz0 hz1 hz2 rfl (by decide) (.slice ta m.told.length tc) m.told.length (qAv m.told) h.tt ⟨b, 0, none⟩ 1 1 [.int .i64 x] rfl (fun j u hj => by
  have hj0 : j = 0 := by
   have := (List.getElem?_eq_some_iff.1 hj).1
   simpa using this
  subst hj0
  rw [qAb]
  refine qA (i := 0) hb ?_
  simpa using hj) (by simp [Value.oneCell']) (by unfold maxLen; omega) (by omega) h.kz
 obtain ⟨v', W', hrun, hown, hgr, _⟩ := key 0
 obtain ⟨ta', tc', rfl⟩ := row_form hown
 have hrun' : ∀ ty, (Builtin.append_ #[22, 22] ty #[.slice ta m.told.length tc, .slice (some ⟨b, 0, none⟩) 1 1]).run Tryz.prog W = .ok (.slice ta' (m.told.length + 1) tc') W' := fun ty => by
  have e : (Builtin.append_ #[22, 22] ty #[.slice ta m.told.length tc, .slice (some ⟨b, 0, none⟩) 1 1]).run Tryz.prog W = (Builtin.append_ #[22, 22] 0 #[.slice ta m.told.length tc, .slice (some ⟨b, 0, none⟩) 1 1]).run Tryz.prog W := rfl
  rw [e, hrun]
 have hne : ∀ {q : Nat} {c : Array Value} {t : TypeId} {f : Nat × Nat}, W.heap[q]? = some (.cells c t f) -> t ≠ 3 -> W'.heap[q]? = some (.cells c t f) := fun {q c t f} hq ht => by
  rw [hgr.block q (Array.getElem?_eq_some_iff.1 hq).1 (by
   rcases qEX h.tt hq ht with e | e
   ·rw [e]; simp
   ·exact fun e' => e e'.symm)]
  exact hq
 have g1 := hne h.b1 (by decide)
 have gb1 := hne h.bb (by decide)
 have hkept : Kept K g gb W W' := Kept.grown hgr h.kz (fun k hk => (h.tt.lt k hk).1)
 refine ⟨ta', tc', W', hrun', hgr, qA (i := 22) g1 rfl, qE g1, hkept.trans (Kept.cell ⟨g, 22, none⟩ _), ?_⟩
 refine ⟨?_, ?_, ?_, ?_, ?_, h.k2, h.g2, h.gb2⟩
 ·rw [_root_.Go.heap_setCell_same W' g 22 _ 43 _ g1]
  have e : (m.told ++ [x]).length = m.told.length + 1 := by simp
  unfold mC
  simp only [e]
  rfl
 ·rw [Below.heap_setCell _ _ _ _ (by exact fun e => h.ne e.symm)]
  exact gb1
 ·have e : (m.told ++ [x]).length = m.told.length + 1 := by simp
  have e2 : qAv (m.told ++ [x]) = qAv m.told ++ [.int .i64 x] := by simp [qAv]
  show World.ownsRow _ K 3 1 (.slice ta' (m.told ++ [x]).length tc') (m.told ++ [x]).length (qAv (m.told ++ [x]))
  rw [e, e2]
  exact hown.kept (qEt W' ⟨g, 22, none⟩ _) (qEX hown g1 (by decide))
 ·exact qF7 h.la (hkept.trans (Kept.cell ⟨g, 22, none⟩ _)) h.k2 h.g2 h.gb2
 ·have := h.kz
  have := hgr.size
  simp [World.setCell]
  omega
theorem load2 (x : Int) : wrap32 (x * 65536) / 65536 = wrap32 (IntKind.i16.wrap x) := by
 have e : IntKind.i16.wrap x = (x + 32768) % 65536 - 32768 := by simp [IntKind.wrap, IntKind.bits, IntKind.signed]; omega
 rw [e]
 unfold wrap32
 omega
def RdS (K g : Nat) (m : Ma) (gb bc : Nat) (sv : Value) (ta : Option Addr) (tc : Nat) (W : World) (i j : Nat) (w' : World) : Prop :=
 w'.cell? ⟨g, i, none⟩ = some (.int .i64 (m.r i)) /\ w'.cell? ⟨g, j, none⟩ = some (.int .i64 (m.r j)) /\ w'.cell? ⟨g, 20, none⟩ = some (.slice (some ⟨gb, 0, none⟩) m.by'.length bc) /\ w'.frozen? ⟨g, i, none⟩ = false /\ Below W.heap.size W w' /\ MR K g m gb bc sv ta tc w'
theorem rds {K g : Nat} {m : Ma} {gb bc : Nat} {sv : Value} {ta : Option Addr} {tc : Nat} {W w' : World} {i j : Nat} (hi : i < 16) (hj : j < 16) (h : MR K g m gb bc sv ta tc W) (hb : Below W.heap.size W w') : RdS K g m gb bc sv ta tc W i j w' := by
 have h' := h.next hb
 exact ⟨h'.rn i hi, h'.rn j hj, h'.cells.2.2.2.2.1, h'.fz i, hb, h'⟩
theorem qF8 {W : World} {p : Addr} {v : Value} (h : W.cell? p = some v) : W.drew.cell? p = some v := by simpa using h
theorem qId {W : World} {g k j : Nat} {v x : Value} (hk : k ≠ j) (h : W.cell? ⟨g, j, none⟩ = some v) : (W.setCell ⟨g, k, none⟩ x).cell? ⟨g, j, none⟩ = some v := by
 rw [World.cell?_setCell_other _ _ _ _ (by intro e; cases e; exact hk rfl)]; exact h
theorem get_no (K g : Nat) (m : Ma) (gb bc : Nat) (s0 : Option Addr) (s1 s2 : Nat) (ta : Option Addr) (tc : Nat) (n a size : Int) (W : World) (h : MR K g m gb bc (.slice s0 s1 s2) ta tc W) (hs : size = 2 \/ size = 4) (hM : MOk m) (ha0 : -4611686018427387904 <= a) (ha1 : a <= 4611686018427387904) (hh : hasB m a size = false) :
  Calls Tryz.prog 55 #[.pointer (some ⟨g, 0, none⟩), .int .i64 n, .int .i64 a, .int .i64 size] W fun e W' => e = .returned (.int .i64 3) /\ Below W.heap.size W W' := by
 have HT : Hid (∀ V, Calls Tryz.prog 49 #[.agg #[.int .i64 m.base, .slice (some ⟨gb, 0, none⟩) m.by'.length bc, .slice s0 s1 s2], .int .i64 a, .int .i64 size] V fun e w' => e = .returned (.tuple #[.int .i64 (a - m.base), .bool false]) /\ Below V.heap.size V w') := fun V => by
  have := qEG m (some ⟨gb, 0, none⟩) bc (.slice s0 s1 s2) a size V hs hM.b0 hM.b1 (by have := hM.bl; omega) ha0 ha1
  rw [hh] at this
  exact this
 obtain ⟨_, _, _, c19, c20, c21, _, _⟩ := h.cells
 clear h hM hh
 go_enter Tryz.func55, Tryz.ntmps55
 go_wp2_with (first | (go_at_call 49; refine (HT.out _).mono ?_; rintro e W1 ⟨rfl, hb1⟩) | fail)
 go_ret
 exact ⟨rfl, hb1⟩
theorem qJz (K g : Nat) (m : Ma) (gb bc : Nat) (s0 : Option Addr) (s1 s2 : Nat) (ta : Option Addr) (tc : Nat) (n a size : Int) (W : World) (h : MR K g m gb bc (.slice s0 s1 s2) ta tc W) (hs : size = 2 \/ size = 4) (hM : MOk m) (ha0 : -4611686018427387904 <= a) (ha1 : a <= 4611686018427387904) (hn0 : 0 <= n) (hn1 : n <= 15) (hh : hasB m a size = true) :
  Calls Tryz.prog 55 #[.pointer (some ⟨g, 0, none⟩), .int .i64 n, .int .i64 a, .int .i64 size] W fun e W' => e = .returned (.int .i64 0) /\ PP W.heap.size K g gb bc (.slice s0 s1 s2) (setR m n.toNat (qC8 m a size)) W W' := by
 have HZ : Hid (∀ V v, Below W.heap.size W V -> PP W.heap.size K g gb bc (.slice s0 s1 s2) (setR m n.toNat v) W ((V.setCell ⟨g, n.toNat, none⟩ (.int .i64 v)).drew)) := fun V v hb => ((PP.of h hb (Nat.le_refl _)).reg n.toNat (by omega) v).drew
 have HT : Hid (∀ V, Calls Tryz.prog 49 #[.agg #[.int .i64 m.base, .slice (some ⟨gb, 0, none⟩) m.by'.length bc, .slice s0 s1 s2], .int .i64 a, .int .i64 size] V fun e w' => e = .returned (.tuple #[.int .i64 (a - m.base), .bool true]) /\ Below V.heap.size V w') := fun V => by
  have := qEG m (some ⟨gb, 0, none⟩) bc (.slice s0 s1 s2) a size V hs hM.b0 hM.b1 (by have := hM.bl; omega) ha0 ha1
  rw [hh] at this
  exact this
 obtain ⟨q1, q2, q3⟩ := qFn hh
 have hbl := hM.bl
 have HG : Hid (∀ V, Below W.heap.size W V -> Calls Tryz.prog 51 #[.slice (some ⟨gb, 0, none⟩) m.by'.length bc, .int .i64 (a - m.base), .int .i64 size] V fun e w' => e = .returned (.int .i64 (qBF (bsOf m.by') m.by'.length (a - m.base) size.toNat)) /\ V = w') := fun V hb => (qKj (some ⟨gb, 0, none⟩) m.by'.length bc (bsOf m.by') (a - m.base) size V (qDL _) (by unfold maxLen; omega) (fun h0 => by
   obtain ⟨b, off, e, _, hc⟩ := ((h.next hb).brd) h0
   exact ⟨b, off, e, hc⟩) (by omega) (by omega) (by omega) (by omega)).mono fun _ _ ⟨h1, h2⟩ => ⟨h1, h2.symm⟩
 have HS := Lib.hid qFv
 have HR : Hid (∀ V, Below W.heap.size W V -> RdS K g m gb bc (.slice s0 s1 s2) ta tc W n.toNat n.toNat V) := fun V hb => rds (by omega) (by omega) h hb
 have hx : 0 <= qBF (bsOf m.by') m.by'.length (a - m.base) size.toNat /\ (size = 2 -> qBF (bsOf m.by') m.by'.length (a - m.base) size.toNat <= 65535) /\ qBF (bsOf m.by') m.by'.length (a - m.base) size.toNat <= 4294967295 := by
  rcases hs with rfl | rfl
  ·have := get2_bd m (a - m.base)
   exact ⟨this.1, fun _ => this.2, by have := this.2; exact Int.le_trans this (by decide)⟩
  ·have := get4_bd m (a - m.base)
   exact ⟨this.1, fun h => absurd h (by decide), this.2⟩
 have hLs : qC8 m a size = if size = 2 then wrap32 (IntKind.i16.wrap (qBF (bsOf m.by') m.by'.length (a - m.base) size.toNat)) else wrap32 (qBF (bsOf m.by') m.by'.length (a - m.base) size.toNat) := by
  rcases hs with rfl | rfl <;> rfl
 obtain ⟨_, _, _, c19, c20, c21, _, _⟩ := h.cells
 have hn2 : n < 16 := by omega
 have hn20 : n.toNat ≠ 20 := by omega
 obtain ⟨L, hL⟩ : ∃ L, L = qC8 m a size := ⟨_, rfl⟩
 rw [<- hL]
 rw [hLs] at hL
 clear hLs
 generalize qBF (bsOf m.by') m.by'.length (a - m.base) size.toNat = x at *
 clear h hM hh
 rcases hs with rfl | rfl
 ·have HL : Hid (wrap32 (x * 65536) / 65536 = L) := by rw [hL]; exact load2 x
  obtain ⟨x0, x1, _⟩ := hx
  have x1 := x1 rfl
  clear hL
  go_enter Tryz.func55, Tryz.ntmps55
  go_wp2_with (first | (go_at_call 49; refine (HT.out _).mono ?_; rintro e W1 ⟨rfl, hb1⟩) | fail)
  have c20' : W1.cell? ⟨g, 20, none⟩ = some (.slice (some ⟨gb, 0, none⟩) m.by'.length bc) := (HR.out W1 hb1).2.2.1
  have cn := (HR.out W1 hb1).1
  have fn := (HR.out W1 hb1).2.2.2.1
  go_region_held3 (fun w' => w'.cell? ⟨g, 20, none⟩ = some (.slice (some ⟨gb, 0, none⟩) m.by'.length bc))
   (repeat (first | assumption | refine qF8 ?_ | refine qId hn20 ?_))
   (first | (go_at_call 51; refine (HG.out _ hb1.drew).mono ?_; rintro e w' ⟨rfl, rfl⟩) | (go_at_call 60; refine (HS.out _ _).mono ?_; rintro e w' ⟨rfl, rfl⟩))
  have e1 : IntKind.i64.wrap (x * 65536) = x * 65536 := by rw [IntKind.wrap_i64]; omega
  rw [e1, HL.out]
  go_wp2
  go_ret
  exact ⟨rfl, HZ.out _ _ hb1⟩
 ·have HL : Hid (wrap32 x = L) := by rw [hL]; rfl
  obtain ⟨x0, _, x1⟩ := hx
  clear hL
  go_enter Tryz.func55, Tryz.ntmps55
  go_wp2_with (first | (go_at_call 49; refine (HT.out _).mono ?_; rintro e W1 ⟨rfl, hb1⟩) | fail)
  have c20' : W1.cell? ⟨g, 20, none⟩ = some (.slice (some ⟨gb, 0, none⟩) m.by'.length bc) := (HR.out W1 hb1).2.2.1
  have cn := (HR.out W1 hb1).1
  have fn := (HR.out W1 hb1).2.2.2.1
  go_region_held3 (fun w' => w'.cell? ⟨g, 20, none⟩ = some (.slice (some ⟨gb, 0, none⟩) m.by'.length bc))
   (repeat (first | assumption | refine qF8 ?_ | refine qId hn20 ?_))
   (first | (go_at_call 51; refine (HG.out _ hb1.drew).mono ?_; rintro e w' ⟨rfl, rfl⟩) | (go_at_call 60; refine (HS.out _ _).mono ?_; rintro e w' ⟨rfl, rfl⟩))
  have e1 : IntKind.i64.wrap x = x := by rw [IntKind.wrap_i64]; omega
  rw [e1, HL.out]
  go_wp2
  go_ret
  exact ⟨rfl, HZ.out _ _ hb1⟩
end Go.Proofs.YtfmljailbebfgaaGreatDoor.Si
