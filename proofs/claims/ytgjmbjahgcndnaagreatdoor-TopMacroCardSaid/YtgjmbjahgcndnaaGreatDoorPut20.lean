import Derived.Test.YtgjmbjahgcndnaaGreatDoorPut12
import Derived.Deep.Upon
set_option maxHeartbeats 4000000
namespace Go.Proofs.YtgjmbjahgcndnaaGreatDoor.Li
open Go.RowKit
theorem qBP {w : World} {base : Nat} {v x : Value} {l news : List UInt8} (ho : Out w base v l) (hx : qg w x news) (hl : l.length + news.length <= 140737488355328) :
  ∃ v' w', (∀ ty, (Builtin.append_ #[31, 31] ty #[v, x]).run Tryz.prog w = .ok v' w') /\ Out w' base v' (l ++ news) /\ w.grownBy w' v.ownBlock := by
 obtain ⟨ad, cap, rfl, _, hc⟩ := hx
 by_cases h0 : 0 < news.length
 ·obtain ⟨b, o, rfl, _, hcell⟩ := hc h0
  refine qEC ho ⟨b, o, none⟩ news.length cap news rfl (fun j u hj => ?_) hl
  rw [qAS]
  simp only [qh, List.getElem?_map, Option.map_eq_some_iff] at hj
  obtain ⟨c, hj, rfl⟩ := hj
  obtain ⟨hlt, rfl⟩ := List.getElem?_eq_some_iff.1 hj
  exact hcell j hlt
 ·have hn : news = [] := List.eq_nil_of_length_eq_zero (by omega)
  subst hn
  obtain ⟨i, hi, _, hz1, _⟩ := info_parts qGO
  have key : ∃ a n c, v = .slice a n c /\ n <= c := by
   rcases ho.1.2 with ⟨rfl, h⟩ | ⟨g, cap, cur, rfl, _, _, hnc, _⟩
   ·exact ⟨none, 0, 0, rfl, Nat.le_refl _⟩
   ·exact ⟨_, _, _, rfl, hnc⟩
  obtain ⟨a, n, c, rfl, hle⟩ := key
  refine ⟨_, w, fun ty => run_append_nothing (P := Tryz.prog) w 31 31 ty 5 i Tryz.underlying31 hi a n c hle _ ?_, by simpa using ho, World.grownBy.refl w _⟩
  cases ad with
  | none => exact Src.ofNil w Tryz.underlying31 cap
  | some ad => exact Src.ofSlice w Tryz.underlying31 ad 0 cap [] (by simp) (by simp) (by simp)
theorem qAY {W W' : World} {base size m : Nat} {e : TypeId} {v : Value} {ys : List Value} (h : W.ownsRow base e size v m ys) (hg : W.grownBy W' v.ownBlock) {n : Nat} {c : Array Value} {t : TypeId} (hb : W.heap[n]? = some (.cells c t (0, 0))) (ht : t ≠ e) : W'.heap[n]? = some (.cells c t (0, 0)) := by
 rw [hg.block n (Array.getElem?_eq_some_iff.1 hb).1 ?_, hb]
 rcases h.2 with ⟨rfl, _⟩ | ⟨g, cap, cur, rfl, _, hgg, _⟩
 ·simp [Value.ownBlock]
 ·intro e0
  simp only [Value.ownBlock, Option.some.injEq] at e0
  subst e0
  rw [hb] at hgg
  injection hgg with hgg
  injection hgg with _ h2
  exact ht h2
structure LO (w1 W : World) (base : Int) (b : List UInt8) (s : List Sy) (bv sv : Value) : Prop where
 bel : Below w1.heap.size w1 W
 box : W.heap[w1.heap.size]? = some (.cells #[.int .i64 base, bv, sv] 34 (0, 0))
 by' : Out W (w1.heap.size + 1) bv b
 sy : W.ownsRow (w1.heap.size + 1) 81 2 sv s.length (qT s)
section
variable {w1 W W' : World} {base : Int} {b : List UInt8} {s : List Sy} {bv sv : Value}
theorem LO.new (w1 : World) (base : Int) : LO w1 (w1.alloc (.cells #[.int .i64 base, .slice none 0 0, .slice none 0 0] 34)) base [] [] (.slice none 0 0) (.slice none 0 0) :=
 ⟨qE _ _, qK _ _ _, ⟨World.ownsRow_nil _ _ _ _, by simp⟩, World.ownsRow_nil _ _ _ _⟩
theorem LO.size (h : LO w1 W base b s bv sv) : w1.heap.size + 1 <= W.heap.size := h.by'.2
theorem LO.go (h : LO w1 W base b s bv sv) (hb : Below W.heap.size W W') : LO w1 W' base b s bv sv := by
 have hz := h.size
 have hg : W.grownBy W' (some w1.heap.size) := ogbelow _ hb (Nat.le_refl _)
 exact ⟨h.bel.trans (hb.mono (by omega)), by rw [hb.block _ (by omega)]; exact h.box, h.by'.below hb (Nat.le_refl _), qLc h.sy (by omega) hg⟩
theorem LO.cells (h : LO w1 W base b s bv sv) : W.cell? ⟨w1.heap.size, 0, none⟩ = some (.int .i64 base) /\ W.cell? ⟨w1.heap.size, 1, none⟩ = some bv /\ W.cell? ⟨w1.heap.size, 2, none⟩ = some sv /\
  W.frozen? ⟨w1.heap.size, 0, none⟩ = false /\ W.frozen? ⟨w1.heap.size, 1, none⟩ = false /\ W.frozen? ⟨w1.heap.size, 2, none⟩ = false :=
 ⟨qB h.box rfl, qB h.box rfl, qB h.box rfl, qD h.box, qD h.box, qD h.box⟩
theorem LO.appS (h : LO w1 W base b s bv sv) (x : Sy) (g : Nat) (hgb : W.heap[g]? = some (.cells #[.string ⟨x.name.toArray⟩, .int .i64 x.pos] 81 (0, 0))) (hl : s.length <= 5000000000) :
  ∃ v' W', (∀ ty, (Builtin.append_ #[32, 32] ty #[sv, .slice (some ⟨g, 0, none⟩) 1 1]).run Tryz.prog W = .ok v' W') /\ W'.cell? ⟨w1.heap.size, 2, none⟩ = some sv /\ W'.frozen? ⟨w1.heap.size, 2, none⟩ = false /\ W.grownBy W' sv.ownBlock /\ (∀ n c t, n ≠ w1.heap.size -> W.heap[n]? = some (.cells c t (0, 0)) -> t ≠ 81 -> (W'.setCell ⟨w1.heap.size, 2, none⟩ v').heap[n]? = some (.cells c t (0, 0))) /\
   LO w1 (W'.setCell ⟨w1.heap.size, 2, none⟩ v') base b (s ++ [x]) bv v' := by
 have hz := h.size
 obtain ⟨v', W', hr, ho, hg⟩ := app_sym h.sy hz x g hgb hl
 have hfar : ∀ j, sv.ownBlock = some j -> w1.heap.size + 1 <= j := fun j hj => (h.sy.lt j hj).1
 have hbox : W'.heap[w1.heap.size]? = some (.cells #[.int .i64 base, bv, sv] 34 (0, 0)) := by
  rw [hg.block _ (by omega) (fun e => by have := hfar _ e.symm; omega)]; exact h.box
 refine ⟨v', W', hr, qB hbox rfl, qD hbox, hg, fun n c t hn hb ht => by rw [Below.heap_setCell _ _ _ _ hn]; exact qAY h.sy hg hb ht, ?_, ?_, ⟨qAr (h.by'.1.kept hg (qBD h.sy h.by'.1 (by decide))) (by omega), by have := hg.size; simp; omega⟩, qAr ho (by omega)⟩
 ·exact (h.bel.grown hg (by omega) (fun j hj => by have := hfar j hj; omega)).setCell (Nat.le_refl _) _
 ·rw [_root_.Go.heap_setCell_same W' _ 2 _ _ v' hbox]; rfl
variable {N : Nat} {c y r : Value}
end
theorem qCV {nm : List UInt8 -> Bool} : ∀ (l : List Ob) (i : Nat), qAF nm i l = none -> ∀ o, o ∈ l -> qAD nm o = 0
 | [], _, _ => fun o ho => by cases ho
 | o :: r, i, h => by
   unfold qAF at h
   split at h
   ·intro x hx
    rcases List.mem_cons.1 hx with rfl | hx
    ·assumption
    ·exact qCV r (i + 1) h x hx
   ·cases h
theorem qLi : ∀ (l : List Ob) (b : Int), (∀ o, o ∈ l -> o.code.length <= 8000) -> endL b l <= b + l.length * 8003
 | [], b, _ => by simp [endL]
 | o :: r, b, h => by
   have h1 := qLi r (up4 b + o.code.length) (fun x hx => h x (List.mem_cons_of_mem _ hx))
   have h2 := h o List.mem_cons_self
   have h3 := qEn b
   simp only [endL, List.length_cons]
   push_cast
   omega
theorem qBk {nm : List UInt8 -> Bool} {o : Ob} (h : qAD nm o = 0) : o.code.length <= 8000 /\ o.syms.length <= 255 /\ o.rels.length <= 16000 := by
 unfold qAD at h
 split at h
 ·cases h
 ·omega
theorem qGY {nm : List UInt8 -> Bool} {o : Ob} (h : qAD nm o = 0) : ∀ s, s ∈ o.syms -> 0 <= s.pos /\ s.pos <= 8000 := by
 have h1 := (qBk h).1
 unfold qAD at h
 split at h
 ·cases h
 ·split at h
  ·rename_i _ hs
   intro s hm
   have := qEa _ _ hs s hm
   omega
  ·contradiction
def upW (n : Int) : Int := wrap64 (up4 n)
def qK3 : Int -> List Ob -> List Int
 | _, [] => []
 | b, o :: r => upW b :: qK3 (wrap64 (upW b + o.code.length)) r
def endW : Int -> List Ob -> Int
 | b, [] => b
 | b, o :: r => endW (wrap64 (upW b + o.code.length)) r
theorem qLP (l : List Ob) (o : Ob) : ∀ b : Int, endW b (l ++ [o]) = wrap64 (upW (endW b l) + o.code.length) := by
 induction l with
 | nil => intro b; rfl
 | cons x r ih => intro b; simp [endW, ih]
theorem qLV (l : List Ob) (b : Int) (k : Nat) (hk : k < l.length) : endW b (l.take (k + 1)) = wrap64 (upW (endW b (l.take k)) + l[k].code.length) := by
 rw [qFx l hk, qLP]
theorem in64 (n : Int) : -9223372036854775808 <= wrap64 n /\ wrap64 n <= 9223372036854775807 := by unfold wrap64; omega
theorem endW_in (l : List Ob) : ∀ b : Int, -9223372036854775808 <= b -> b <= 9223372036854775807 -> -9223372036854775808 <= endW b l /\ endW b l <= 9223372036854775807 := by
 induction l with
 | nil => intro b h0 h1; exact ⟨h0, h1⟩
 | cons o r ih => intro b _ _; exact ih _ (in64 _).1 (in64 _).2
theorem qKI (l : List Ob) : ∀ b : Int, 0 <= b -> endL b l <= 4611686018427387904 -> qK3 b l = qm b l /\ endW b l = endL b l := by
 induction l with
 | nil => intro b _ _; exact ⟨rfl, rfl⟩
 | cons o r ih =>
   intro b h0 h1
   have hu := qEn b
   have hge := qG2 r (up4 b + o.code.length)
   simp only [endL] at h1
   have e1 : upW b = up4 b := by unfold upW wrap64; omega
   have e2 : wrap64 (up4 b + o.code.length) = up4 b + o.code.length := by unfold wrap64; omega
   simp only [qK3, endW, qm, endL, e1, e2]
   obtain ⟨h2, h3⟩ := ih _ (by omega) h1
   exact ⟨by rw [h2], h3⟩
theorem and3 (n : Int) : bits .and .i64 n 3 = n % 4 := by
 have h3 : (BitVec.ofInt 64 3).toNat = 2 ^ 2 - 1 := by decide
 have key : (BitVec.ofInt 64 n &&& BitVec.ofInt 64 3).toNat = (n % ((2 ^ 64 : Nat) : Int)).toNat % 2 ^ 2 := by
  rw [BitVec.toNat_and, BitVec.toNat_ofInt, h3, Nat.and_two_pow_sub_one_eq_mod]
 show IntKind.i64.wrap ((BitVec.ofInt 64 n &&& BitVec.ofInt 64 3).toNat : Nat) = n % 4
 rw [key, IntKind.wrap_i64]
 omega
theorem up_eq (n : Int) : wrap64 (n + bits .and .i64 (wrap64 (-n)) 3) = upW n := by
 rw [and3]; unfold upW up4 wrap64; omega
def IRow (W : World) (g n k : Nat) (B : Nat -> Int) : Prop := ∃ cs : Array Value, W.heap[g]? = some (.cells cs 3 (0, 0)) /\ cs.size = n /\ ∀ i, i < n -> cs[i]? = some (.int .i64 (if i < k then B i else 0))
theorem IRow.new (w : World) (n : Nat) (B : Nat -> Int) : IRow (w.alloc (.cells (madeCells #[.int .i64 0] n) 3)) w.heap.size n 0 B := by
 refine ⟨_, qK _ _ _, size_madeCells _ _, fun i hi => ?_⟩
 simp [madeCells, hi, Nat.mod_one]
theorem IRow.put {W : World} {g n k : Nat} {B : Nat -> Int} (h : IRow W g n k B) : IRow (W.setCell ⟨g, k, none⟩ (.int .i64 (B k))) g n (k + 1) B := by
 obtain ⟨cs, hb, hs, hc⟩ := h
 refine ⟨_, _root_.Go.heap_setCell_same W g k cs 3 _ hb, by simpa using hs, fun i hi => ?_⟩
 by_cases h : k = i
 ·subst h
  rw [Array.getElem?_setIfInBounds_self, if_pos (by omega), if_pos (by omega)]
 ·rw [Array.getElem?_setIfInBounds_ne h, hc i hi]
  by_cases h2 : i < k
  ·rw [if_pos h2, if_pos (by omega)]
  ·rw [if_neg h2, if_neg (by omega)]
theorem IRow.cell {W : World} {g n k : Nat} {B : Nat -> Int} (h : IRow W g n k B) {i : Nat} (hi : i < n) : W.cell? ⟨g, i, none⟩ = some (.int .i64 (if i < k then B i else 0)) /\ W.frozen? ⟨g, i, none⟩ = false := by
 obtain ⟨cs, hb, hs, hc⟩ := h
 exact ⟨qB hb (hc i hi), qD hb⟩
theorem IRow.go {W W' : World} {g n k : Nat} {B : Nat -> Int} (h : IRow W g n k B) (hb : W'.heap[g]? = W.heap[g]?) : IRow W' g n k B := by
 obtain ⟨cs, h1, h2⟩ := h
 exact ⟨cs, hb.trans h1, h2⟩
theorem IRow.lt {W : World} {g n k : Nat} {B : Nat -> Int} (h : IRow W g n k B) : g < W.heap.size := by
 obtain ⟨cs, h1, h2⟩ := h
 exact (Array.getElem?_eq_some_iff.1 h1).1
theorem qJI (l : List Ob) (v : Value) (base : Int) (w : World) (hv : OObs w v l) (h0 : -9223372036854775808 <= base) (h1 : base <= 9223372036854775807) (hl : l.length * 8 <= 140737488355328) :
  Calls Tryz.prog 65 #[v, .int .i64 base] w fun e w' => e = .returned (.tuple #[.slice (some ⟨w.heap.size, 0, none⟩) l.length l.length, .int .i64 (endW base l)]) /\ Below w.heap.size w w' /\ IRow w' w.heap.size l.length l.length (fun i => upW (endW base (l.take i))) := by
 have hmk := run_make_row' (P := Tryz.prog) 22 3 (.int .i64 0) 8 Tryz.underlying22 info3 rfl .i64 .i64 l.length (by omega) (by omega)
 obtain ⟨ad, cap, rfl, hm, hc⟩ := hv
 have HC := Lib.hid hc
 unfold maxLen at hm
 clear hc
 have HIN := Lib.hid (fun k => endW_in (l.take k) base h0 h1)
 have HR0 := Lib.hid (IRow.new w l.length (fun i => upW (endW base (l.take i))))
 have HB0 := Lib.hid (qE w (.cells (madeCells #[.int .i64 0] l.length) 3))
 go_enter Tryz.func65, Tryz.ntmps65
 go_wp2
 go_loopw [7, 16] (fun b i wr => ∃ k : Nat, k <= l.length /\ i = .int .i64 k /\ b = .int .i64 (endW base (l.take k)) /\ Hid (Below w.heap.size w wr) /\ Hid (IRow wr w.heap.size l.length k (fun i => upW (endW base (l.take i))))) (fun _ i _ => l.length - (intOf i).toNat)
 case atStart => exact ⟨0, Nat.zero_le _, rfl, rfl, HB0, HR0⟩
 case round =>
  obtain ⟨k, hk, rfl, rfl, HB, HR⟩ := hrel
  clear HB0 HR0 hmk
  by_cases hlt : k < l.length
  ·have hk1 : (k : Int) < l.length := by omega
   obtain ⟨b, f, rfl, hbl, hcell⟩ := HC.out (by omega)
   obtain ⟨c, s, r, c0, c1, c2, hin⟩ := hcell k hlt
   rw [<- HB.out.cell (by exact hbl)] at c0 c1 c2
   have hbw : b < wr.heap.size := Nat.lt_of_lt_of_le hbl HB.out.size
   obtain ⟨q1, q2, rfl, hcl, q3⟩ := hin.1
   obtain ⟨q4, q5, rfl, q6⟩ := hin.2.1
   obtain ⟨q7, q8, rfl, q9⟩ := hin.2.2
   clear q3 q6 q9 hin hcell
   unfold maxLen at hcl
   have HE := Lib.hid (qLV l base k hlt)
   have HU := Lib.hid (up_eq (endW base (l.take k)))
   have HI := Lib.hid (HIN.out k)
   have hr := (HR.out.go ((qE wr (.cells #[.slice q1 l[k].code.length q2, .slice q4 l[k].syms.length q5, .slice q7 l[k].rels.length q8] 49)).block _ HR.out.lt))
   obtain ⟨y0, y1⟩ := hr.cell hlt
   rw [if_neg (by omega)] at y0
   have HR2 : Hid (IRow ((wr.setCell ⟨w.heap.size, k, none⟩ (.int .i64 (wrap64 (endW base (l.take k) + bits .and .i64 (wrap64 (-endW base (l.take k))) 3)))).alloc (.cells #[.slice q1 l[k].code.length q2, .slice q4 l[k].syms.length q5, .slice q7 l[k].rels.length q8] 49)) w.heap.size l.length (k + 1) (fun i => upW (endW base (l.take i)))) := by
    unfold Hid; rw [HU.out]; exact HR.out.put.go ((qE _ _).block _ HR.out.put.lt)
   have hgw := HR.out.lt
   have hne : wr.heap.size ≠ w.heap.size := by omega
   have HB2 : Hid (∀ x o, Below w.heap.size w ((wr.setCell ⟨w.heap.size, k, none⟩ x).alloc o)) := fun x o => (HB.out.setCell (p := ⟨w.heap.size, k, none⟩) (Nat.le_refl w.heap.size) x).alloc (by simpa using HB.out.size) o
   have HE2 : Hid (endW base (l.take (k + 1)) = wrap64 (wrap64 (endW base (l.take k) + bits .and .i64 (wrap64 (-endW base (l.take k))) 3) + l[k].code.length)) := by unfold Hid; rw [HU.out]; exact HE.out
   clear HR HB hr HE HU HI
   generalize endW base (l.take k) = n at *
   go_wp2
   exact ⟨⟨k + 1, by omega, by go_num, by rw [HE2.out], HB2.out _ _, HR2⟩, by simp [intOf]; omega⟩
  ·have hk1 : ¬ (k : Int) < l.length := by omega
   obtain rfl : k = l.length := by omega
   rw [List.take_length] at *
   go_wp2
   go_ret2
   exact ⟨rfl, HB.out, HR.out⟩
def qi (W W' : World) : Prop := W.heap.size <= W'.heap.size /\ ∀ (q : Nat) (c : Array Value) (t : TypeId) (f : Nat × Nat), W.heap[q]? = some (.cells c t f) -> t ≠ 5 -> t ≠ 81 -> t ≠ 34 -> W'.heap[q]? = some (.cells c t f)
theorem qi.trans {A B C : World} (h : qi A B) (k : qi B C) : qi A C := ⟨Nat.le_trans h.1 k.1, fun q c t f hb h1 h2 h3 => k.2 q c t f (h.2 q c t f hb h1 h2 h3) h1 h2 h3⟩
theorem qi.of {W W' : World} (h : Below W.heap.size W W') : qi W W' := ⟨h.size, fun q c t f hb _ _ _ => by rw [h.block q (Array.getElem?_eq_some_iff.1 hb).1]; exact hb⟩
theorem qi.row {W W' : World} (h : qi W W') {g n k : Nat} {B : Nat -> Int} (hr : IRow W g n k B) : IRow W' g n k B := by
 obtain ⟨cs, hb, hx⟩ := hr
 exact ⟨cs, h.2 g cs 3 (0, 0) hb (by decide) (by decide) (by decide), hx⟩
theorem qi.late {A W : World} (h : qi A W) {q i : Nat} (hq : A.heap.size <= q) (x : Value) : qi A (W.setCell ⟨q, i, none⟩ x) := by
 refine ⟨by simpa using h.1, fun p c t f hb h1 h2 h3 => ?_⟩
 have hp := (Array.getElem?_eq_some_iff.1 hb).1
 rw [Below.heap_setCell _ _ _ _ (by show p ≠ q; omega)]
 exact h.2 p c t f hb h1 h2 h3
theorem qFK (l : List Ob) (v : Value) (base : Int) (w0 w : World) (f : FuncId) (caps : Array Value) (hent : ∀ args w, (callFunc f args).run Tryz.prog w = .ok (.enter f args) w)
  (I : Nat -> World -> Prop) (X : Nat -> Int -> Prop) (hv : OObs w0 v l) (h0 : -9223372036854775808 <= base) (h1 : base <= 9223372036854775807) (hl : l.length <= 4)
  (hB : ∀ k W, I k W -> Below w0.heap.size w0 W) (hG : ∀ k W W', I k W -> Below W.heap.size W W' -> I k W')
  (hS : ∀ k W (q : Nat) (c : Array Value) (f : Nat × Nat), I k W -> w0.heap.size <= q -> W.heap[q]? = some (.cells c 36 f) -> ∀ i x, I k (W.setCell ⟨q, i, none⟩ x))
  (hstep : ∀ k (hk : k < l.length) c s r W, I k W -> ObIn w0 c s r l[k] -> Calls Tryz.prog f (#[.agg #[c, s, r], .int .i64 (upW (endW base (l.take k)))] ++ caps) W fun e W' => qi W W' /\ Below w0.heap.size w0 W' /\ ∃ x, e = .returned (.int .i64 x) /\ (x = 0 -> I (k + 1) W') /\ (x ≠ 0 -> X k x))
  (hI : I 0 w) :
  Calls Tryz.prog 41 #[v, .int .i64 base, .func (.func f) #[] caps] w fun e W' => qi w W' /\ Below w0.heap.size w0 W' /\ ∃ x a, e = .returned (.agg #[.int .i64 x, .int .i64 a]) /\ ((x = 0 /\ a = 0 /\ I l.length W') \/ (x ≠ 0 /\ ∃ k : Nat, k < l.length /\ a = k /\ X k x)) := by
 have HV := Lib.hid hv
 obtain ⟨ad, cap, rfl, hm, hc⟩ := id hv
 have HC := Lib.hid hc
 have HBI := Lib.hid hB
 have HGI := Lib.hid hG
 have HSI := Lib.hid hS
 have HST := Lib.hid hstep
 have hz0 : w0.heap.size <= w.heap.size := (hB 0 w hI).size
 have hI1 : I 0 (w.alloc (.cells #[.int .i64 0, .int .i64 0] 36)) := hG 0 w _ hI (qE _ _)
 have HBAS := Lib.hid (qJI l (.slice ad l.length cap) base (w.alloc (.cells #[.int .i64 0, .int .i64 0] 36)) (hv.below (hB 0 _ hI1) (Nat.le_refl _)) h0 h1 (by omega))
 have HI1 := Lib.hid hI1
 have HRB := Lib.hid (qK w #[.int .i64 0, .int .i64 0] 36)
 have hsz : (w.alloc (.cells #[.int .i64 0, .int .i64 0] 36)).heap.size = w.heap.size + 1 := by simp
 rw [hsz] at HBAS
 have HK0 := Lib.hid (qi.of (qE w (.cells #[.int .i64 0, .int .i64 0] 36)))
 clear hv hc hB hG hS hstep hI hI1 hsz
 unfold maxLen at hm
 go_enter Tryz.func41, Tryz.ntmps41
 go_wp2_with (first | (go_at_call 65; refine HBAS.out.mono ?_; rintro e w1 ⟨rfl, hb1, hr1⟩; have HR1 := Lib.hid hr1; have hb1' : Below (w.alloc (.cells #[.int .i64 0, .int .i64 0] 36)).heap.size (w.alloc (.cells #[.int .i64 0, .int .i64 0] 36)) w1 := by simpa using hb1) | fail)
 have HI2 := Lib.hid (HGI.out 0 _ _ HI1.out hb1')
 have HRB2 := Lib.hid ((hb1'.block _ (by simp)).trans HRB.out)
 have HK1 := Lib.hid (HK0.out.trans (qi.of hb1'))
 clear hb1 hb1' hr1 HI1 HRB HBAS HK0
 go_wp2_with fail
 go_loopw [20] (fun i W => ∃ k : Nat, k <= l.length /\ i = .int .i64 k /\ Hid (I k W) /\ Hid (W.heap[w.heap.size]? = some (.cells #[.int .i64 0, .int .i64 0] 36 (0, 0))) /\ Hid (IRow W (w.heap.size + 1) l.length l.length (fun i => upW (endW base (l.take i)))) /\ Hid (qi w W)) (fun i _ => l.length - (intOf i).toNat)
 case atStart => exact ⟨0, Nat.zero_le _, rfl, HI2, HRB2, HR1, HK1⟩
 case round =>
  obtain ⟨k, hk, rfl, HI, HRB, HR, HK⟩ := hrel
  clear HI2 HRB2 HR1 HK1
  by_cases hlt : k < l.length
  ·have hk1 : (k : Int) < l.length := by omega
   obtain ⟨b, o, rfl, hbl, hcell⟩ := HC.out (by omega)
   obtain ⟨c, s, r, c0, c1, c2, hin⟩ := hcell k hlt
   have hbw0 := HBI.out k wr HI.out
   rw [<- hbw0.cell (by exact hbl)] at c0 c1 c2
   have hbw : b < wr.heap.size := Nat.lt_of_lt_of_le hbl hbw0.size
   have HIN := Lib.hid hin
   have HIA := Lib.hid (HGI.out k _ _ HI.out (qE wr (.cells #[c, s, r] 49)))
   have HKA := Lib.hid (HK.out.trans (qi.of (qE wr (.cells #[c, s, r] 49))))
   have HRA := Lib.hid ((qi.of (qE wr (.cells #[c, s, r] 49))).row HR.out)
   have HRBA := Lib.hid ((qi.of (qE wr (.cells #[c, s, r] 49))).2 _ _ _ _ HRB.out (by decide) (by decide) (by decide))
   have HOB := Lib.hid (qK wr #[c, s, r] 49)
   obtain ⟨q1, q2, rfl, q3⟩ := id hin.1
   obtain ⟨q4, q5, rfl, q6⟩ := id hin.2.1
   obtain ⟨q7, q8, rfl, q9⟩ := id hin.2.2
   clear q3 q6 q9 hin hcell HI HK HR HRB hbw0
   go_wp2_with fail
   obtain ⟨V, hV⟩ : ∃ V, V = wr.alloc (.cells #[.slice q1 l[k].code.length q2, .slice q4 l[k].syms.length q5, .slice q7 l[k].rels.length q8] 49) := ⟨_, rfl⟩
   rw [<- hV] at HIA HKA HRA HRBA HOB ⊢
   have hzV : wr.heap.size < V.heap.size := (Array.getElem?_eq_some_iff.1 HOB.out).1
   have hg5 : V.cell? ⟨w.heap.size + 1, k, none⟩ = some (.int .i64 (upW (endW base (l.take k)))) := by
    have := (HRA.out.cell hlt).1
    rwa [if_pos hlt] at this
   have hcall := Lib.hid (HST.out k hlt _ _ _ V.drew (HGI.out k _ _ HIA.out (Below.refl _ _).drew) HIN.out)
   have HA : Hid (∀ W', IRow W' (w.heap.size + 1) l.length l.length (fun i => upW (endW base (l.take i))) -> W'.cell? ⟨w.heap.size + 1, k, none⟩ = some (.int .i64 (upW (endW base (l.take k))))) := fun W' h => by
    have := (h.cell hlt).1
    rwa [if_pos hlt] at this
   generalize upW (endW base (l.take k)) = A at *
   have hOBV := HOB.out
   clear hV c0 c1 c2
   refine wp_region_noPanic ?_
   refine wp_region_held_drew (S := fun X => X.heap[wr.heap.size]? = some (.cells #[.slice q1 l[k].code.length q2, .slice q4 l[k].syms.length q5, .slice q7 l[k].rels.length q8] 49 (0, 0)) /\ X.cell? ⟨w.heap.size + 1, k, none⟩ = some (.int .i64 A)) (by kernel_rfl) ⟨hOBV, hg5⟩ (fun hHeld => ?_)
   clear hOBV hg5
   refine tk 0 25 hHeld ?_
   simp only [sA, sB, sC]
   refine tk 2 27 hHeld ?_
   simp only [sA, sB, sC]
   refine tk 3 28 hHeld ?_
   simp only [sA, sB, sC]
   refine tk 4 29 hHeld ?_
   simp only [sA, sB, sC]
   refine tk2 5 30 (v := ?_) ?_ hHeld ?_
   rotate_left
   ·intro w hSw
    have x2 := hSw.2
    go_simp
    try with_reducible rfl
   simp only [sA, sB, sC]
   refine tk2 1 26 (v := ?_) ?_ hHeld ?_
   rotate_left
   ·intro w hSw
    have x0 := qA (i := 0) hSw.1 rfl
    have x1 := qA (i := 1) hSw.1 rfl
    have x2 := qA (i := 2) hSw.1 rfl
    go_simp
    try with_reducible rfl
   simp only [sA, sB, sC]
   refine wr1 6 fun K hK => ?_
   go_simp
   refine hcall.out.mono ?_
   rintro e W' ⟨hkt, hbt, x, rfl, hx0, hx1⟩
   have HKT := Lib.hid ((qi.of (Below.refl V.heap.size V).drew).trans hkt)
   have HBT := Lib.hid hbt
   have HX0 := Lib.hid hx0
   have HX1 := Lib.hid hx1
   have HRA' := Lib.hid (HKT.out.row HRA.out)
   have HOB' := Lib.hid (HKT.out.2 _ _ _ _ HOB.out (by decide) (by decide) (by decide))
   have HRB' := Lib.hid (HKT.out.2 _ _ _ _ HRBA.out (by decide) (by decide) (by decide))
   have HK' := Lib.hid (HKA.out.trans HKT.out)
   have hg6 : W'.cell? ⟨w.heap.size + 1, k, none⟩ = some (.int .i64 A) := HA.out W' HRA'.out
   clear hkt hbt hx0 hx1 hcall
   go_simp
   refine hK.out _ _ ⟨HOB'.out, hg6⟩ (fun hHeld => ?_)
   clear hK K hg6
   refine tk 7 11 hHeld ?_
   simp only [sA, sB, sC]
   refine wpAnyH_done (by kernel_rfl) ?_ _
   refine NoPanic.normal ?_
   clear hHeld
   by_cases hx : x = 0
   ·have HIN' := Lib.hid (HX0.out hx)
    subst hx
    go_wp2_with fail
    exact ⟨⟨k + 1, by omega, by go_num, HIN', HRB', HRA', HK'⟩, by simp [intOf]; omega⟩
   ·have HXX := Lib.hid (HX1.out hx)
    have n0 := qB (i := 0) HRB'.out rfl
    have n1 := qB (i := 1) HRB'.out rfl
    have f0 := qD (i := 0) HRB'.out
    have f1 := qD (i := 1) HRB'.out
    have hz := (Array.getElem?_eq_some_iff.1 HRB'.out).1
    have HB3 := Lib.hid ((HBT.out.setCell (p := ⟨w.heap.size, 0, none⟩) hz0 (.int .i64 x)).setCell (p := ⟨w.heap.size, 1, none⟩) hz0 (.int .i64 k))
    have HK3 := Lib.hid ((HK'.out.late (i := 0) (Nat.le_refl _) (.int .i64 x)).late (i := 1) (Nat.le_refl _) (.int .i64 k))
    go_wp2_with fail
    refine bodyPost_ret (v := .agg #[.int .i64 x, .int .i64 k]) (by simp [results, Tryz.results41, go_sem, n0, n1]) rfl ?_
    exact ⟨HK3.out, HB3.out, x, k, rfl, .inr ⟨hx, k, hlt, rfl, HXX.out⟩⟩
  ·have hk1 : ¬ (k : Int) < l.length := by omega
   obtain rfl : k = l.length := by omega
   have n0 := qB (i := 0) HRB.out rfl
   have n1 := qB (i := 1) HRB.out rfl
   have f0 := qD (i := 0) HRB.out
   have f1 := qD (i := 1) HRB.out
   have hz := (Array.getElem?_eq_some_iff.1 HRB.out).1
   have hI3 := HSI.out _ _ _ _ _ HI.out hz0 HRB.out 0 (.int .i64 0)
   have HI3 := Lib.hid (HSI.out _ _ _ _ _ hI3 hz0 (_root_.Go.heap_setCell_same _ _ 0 _ _ _ HRB.out) 1 (.int .i64 0))
   have HB3 := Lib.hid (HBI.out _ _ HI3.out)
   have HK3 := Lib.hid ((HK.out.late (i := 0) (Nat.le_refl _) (.int .i64 0)).late (i := 1) (Nat.le_refl _) (.int .i64 0))
   clear hI3
   go_wp2_with fail
   refine bodyPost_ret (v := .agg #[.int .i64 0, .int .i64 0]) (by simp [results, Tryz.results41, go_sem, n0, n1]) rfl ?_
   exact ⟨HK3.out, HB3.out, 0, 0, rfl, .inl ⟨rfl, rfl, HI3.out⟩⟩
theorem qEU {syms : List Sy} {base at' : Int} {b : List UInt8} {l : List Re} {k : Nat} (hk : k < l.length) : qAg syms base at' b (l.drop k) = match qB9 syms base at' b l[k] with
  | .error e => .error e
  | .ok c => qAg syms base at' c (l.drop (k + 1)) := by
 rw [List.drop_eq_getElem_cons hk]; rfl
theorem qKA {syms : List Sy} {l : List Ob} {base : Int} {k : Nat} (hk : k < l.length) (b : List UInt8) : relL syms base k b ((l.zip (qm base l)).drop k) = match qAg syms base (up4 (endL base (l.take k))) b l[k].rels with
  | .error e => .error (e, k)
  | .ok c => relL syms base (k + 1) c ((l.zip (qm base l)).drop (k + 1)) := by
 rw [qH9 hk]; rfl
theorem qID {syms : List Sy} {l : List Ob} {base : Int} {k : Nat} (hk : l.length <= k) (b : List UInt8) : relL syms base k b ((l.zip (qm base l)).drop k) = .ok b := by
 rw [List.drop_eq_nil_of_le (by simp; omega)]; rfl
theorem qJM {syms : List Sy} {base at' p : Int} {b : List UInt8} {r : Re} (hp : (if r.name = [] then at' else qk r.name syms) = p) (h : p < 0) : qB9 syms base at' b r = .error 6 := by
 subst hp
 unfold qB9
 exact if_pos h
theorem qI5 {syms : List Sy} {base at' p : Int} {b : List UInt8} {r : Re} (hp : (if r.name = [] then at' else qk r.name syms) = p) (h : ¬ p < 0) (h2 : r.size = 2 /\ (65535 < wrap32 (p + r.add) \/ wrap32 (p + r.add) < -32768)) : qB9 syms base at' b r = .error 3 := by
 subst hp
 unfold qB9
 exact (if_neg h).trans (if_pos h2)
theorem qKn {syms : List Sy} {base at' p : Int} {b : List UInt8} {r : Re} (hp : (if r.name = [] then at' else qk r.name syms) = p) (h : ¬ p < 0) (h2 : ¬ (r.size = 2 /\ (65535 < wrap32 (p + r.add) \/ wrap32 (p + r.add) < -32768))) : qB9 syms base at' b r = .ok (putL b (at' - base + r.pos) r.size (wrap32 (p + r.add))) := by
 subst hp
 unfold qB9
 exact (if_neg h).trans (if_neg h2)
theorem qBc (n : Int) : wrap32 (wrap64 n) = wrap32 n := by unfold wrap32 wrap64; omega
theorem qEZ {nm : List UInt8 -> Bool} {len : Nat} : ∀ (l : List Re) (last : Int), 0 <= last -> qAs nm len last l = 0 -> ∀ r, r ∈ l -> (r.size = 2 \/ r.size = 4) /\ 0 <= r.pos /\ r.pos <= 8000 /\ r.pos + r.size <= len /\ (r.name = [] \/ nm r.name = true)
 | [], _, _, _ => fun r hr => by cases hr
 | x :: l, last, h0, h => by
   have hx : qBA nm len last x = 0 := by
    unfold qAs at h
    split at h
    ·assumption
    ·contradiction
   rw [qAs, if_pos hx] at h
   unfold qBA at hx
   split at hx
   ·cases hx
   ·split at hx
    ·cases hx
    ·split at hx
     ·cases hx
     ·split at hx
      ·cases hx
      ·rename_i h1 h2 h3 h4
       intro r hr
       rcases List.mem_cons.1 hr with rfl | hr
       ·refine ⟨by omega, by omega, by omega, by omega, ?_⟩
        by_cases hn : r.name = []
        ·exact Or.inl hn
        ·right
         cases hq : nm r.name
         ·exact absurd ⟨hn, hq⟩ h4
         ·rfl
       ·exact qEZ l (x.pos + x.size) (by omega) h r hr
theorem qGy {nm : List UInt8 -> Bool} {o : Ob} (h : qAD nm o = 0) : ∀ r, r ∈ o.rels -> (r.size = 2 \/ r.size = 4) /\ 0 <= r.pos /\ r.pos <= 8000 /\ r.pos + r.size <= o.code.length /\ (r.name = [] \/ nm r.name = true) := by
 unfold qAD at h
 split at h
 ·cases h
 ·split at h
  ·exact qEZ _ 0 (Int.le_refl _) h
  ·contradiction
theorem qg.set {W : World} {v : Value} {l : List UInt8} (h : qg W v l) (M o : Nat) (x : Value) (hM : ∀ a n c, v = .slice (some a) n c -> a.block ≠ M) : qg (W.setCell ⟨M, o, none⟩ x) v l := by
 obtain ⟨ad, cap, rfl, hm, hc⟩ := h
 refine ⟨ad, cap, rfl, hm, fun h0 => ?_⟩
 obtain ⟨b, f, rfl, hlt, hcell⟩ := hc h0
 have hne : b ≠ M := hM _ _ _ rfl
 refine ⟨b, f, rfl, by simpa using hlt, fun i hi => ?_⟩
 rw [World.cell?_setCell_other _ _ _ _ (by intro e; cases e; exact hne rfl)]
 exact hcell i hi
theorem qAw.set {W : World} {v : Value} {l : List Sy} (h : qAw W v l) (M o : Nat) (x : Value) (hM : ∀ a n c, v = .slice (some a) n c -> a.block ≠ M) : qAw (W.setCell ⟨M, o, none⟩ x) v l := by
 obtain ⟨ad, cap, rfl, hm, hc⟩ := h
 refine ⟨ad, cap, rfl, hm, fun h0 => ?_⟩
 obtain ⟨b, f, rfl, hlt, hcell⟩ := hc h0
 have hne : b ≠ M := hM _ _ _ rfl
 refine ⟨b, f, rfl, by simpa using hlt, fun i hi => ?_⟩
 rw [World.cell?_setCell_other _ _ _ _ (by intro e; cases e; exact hne rfl), World.cell?_setCell_other _ _ _ _ (by intro e; cases e; exact hne rfl)]
 exact hcell i hi
structure LR (w1 W : World) (base : Int) (b : List UInt8) (s : List Sy) (bv sv : Value) : Prop where
 bel : Below w1.heap.size w1 W
 box : W.heap[w1.heap.size]? = some (.cells #[.int .i64 base, bv, sv] 34 (0, 0))
 by' : qg W bv b
 sy : qAw W sv s
 bf : ∀ a n c, bv = .slice (some a) n c -> w1.heap.size < a.block
 sf : ∀ a n c, sv = .slice (some a) n c -> w1.heap.size < a.block
section
variable {w1 W W' : World} {base : Int} {b : List UInt8} {s : List Sy} {bv sv : Value}
theorem LR.of (h : LO w1 W base b s bv sv) (hb : b.length <= maxLen) : LR w1 W base b s bv sv := by
 refine ⟨h.bel, h.box, h.by'.bytes hb, qEx h.sy, ?_, ?_⟩
 ·rintro a n c rfl
  have := (h.by'.lt a.block rfl).1
  omega
 ·rintro a n c rfl
  have := (h.sy.lt a.block rfl).1
  omega
theorem LR.size (h : LR w1 W base b s bv sv) : w1.heap.size < W.heap.size := (Array.getElem?_eq_some_iff.1 h.box).1
theorem LR.cells (h : LR w1 W base b s bv sv) : W.cell? ⟨w1.heap.size, 0, none⟩ = some (.int .i64 base) /\ W.cell? ⟨w1.heap.size, 1, none⟩ = some bv /\ W.cell? ⟨w1.heap.size, 2, none⟩ = some sv /\ W.frozen? ⟨w1.heap.size, 1, none⟩ = false :=
 ⟨qB h.box rfl, qB h.box rfl, qB h.box rfl, qD h.box⟩
theorem LR.five {w0 : World} (h : LR w1 W base b s bv sv) (hz : w0.heap.size + 2 <= w1.heap.size) (x y z u v : Value) :
  qg (((((W.setCell ⟨w0.heap.size, 0, none⟩ x).setCell ⟨w0.heap.size, 1, none⟩ y).setCell ⟨w0.heap.size, 2, none⟩ z).setCell ⟨w0.heap.size + 1, 0, none⟩ u).setCell ⟨w0.heap.size + 1, 1, none⟩ v) bv b /\
  qAw (((((W.setCell ⟨w0.heap.size, 0, none⟩ x).setCell ⟨w0.heap.size, 1, none⟩ y).setCell ⟨w0.heap.size, 2, none⟩ z).setCell ⟨w0.heap.size + 1, 0, none⟩ u).setCell ⟨w0.heap.size + 1, 1, none⟩ v) sv s := by
 have f1 : ∀ a n c, bv = .slice (some a) n c -> a.block ≠ w0.heap.size := fun a n c e => by have := h.bf a n c e; omega
 have f2 : ∀ a n c, bv = .slice (some a) n c -> a.block ≠ w0.heap.size + 1 := fun a n c e => by have := h.bf a n c e; omega
 have g1 : ∀ a n c, sv = .slice (some a) n c -> a.block ≠ w0.heap.size := fun a n c e => by have := h.sf a n c e; omega
 have g2 : ∀ a n c, sv = .slice (some a) n c -> a.block ≠ w0.heap.size + 1 := fun a n c e => by have := h.sf a n c e; omega
 exact ⟨qg.set (qg.set (qg.set (qg.set (qg.set h.by' _ _ _ f1) _ _ _ f1) _ _ _ f1) _ _ _ f2) _ _ _ f2, qAw.set (qAw.set (qAw.set (qAw.set (qAw.set h.sy _ _ _ g1) _ _ _ g1) _ _ _ g1) _ _ _ g2) _ _ _ g2⟩
variable {N : Nat} {c y r : Value}
end
end Go.Proofs.YtgjmbjahgcndnaaGreatDoor.Li
