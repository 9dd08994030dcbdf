import Derived.Test.YtgjmbjahgcndnaaGreatDoorPut28
import Derived.Handy
import Derived.Deep.RegionLaw
set_option maxHeartbeats 8000000
set_option maxRecDepth 100000
namespace Go.Proofs.YtgjmbjahgcndnaaGreatDoor
open Go.RowKit
theorem qQ {P : Program} {w : World} {ops : Array Oper} {rest : List Oper} {o : Oper} {a : Act} {Q : Exit -> Act -> World -> Prop} (hgd : o.guard = none) (sl x : Operand) (t u : TypeId)
  (ho : o.op = .call { callee := .builtin .append, args := #[sl, x], argTypes := #[t, u] }) (v v2 : Value) (hs : a.eval sl = v) (hx : a.eval x = v2) {v' : Value} {w' : World}
  (hr : ∀ ty, (Builtin.append_ #[t, u] ty #[v, v2]).run P w = .ok v' w') (h : wpList P ops Q rest (a.put o.dst v') w') : wpList P ops Q (o :: rest) a w := by
 refine wpList_plain hgd fun K hK => ?_
 have hr := hr o.type
 unfold Oper.wp execOp
 simp only [ho, resolve, invoke, builtin, Sem.run_bind, Sem.run_pure, Result.andThen_ok, List.map_toArray, List.map_cons, List.map_nil, hs, hx, hr]
 exact hK _ _ h
theorem qCJ {P : Program} {ops : Array Oper} {o : Oper} {a : Act} {w : World} {K : Act -> World -> Prop} {Q : Exit -> Act -> World -> Prop} {E : Prop} (hgd : o.guard = none) (sl x : Operand) (t u : TypeId)
  (ho : o.op = .call { callee := .builtin .append, args := #[sl, x], argTypes := #[t, u] }) (v v2 : Value) (hs : a.eval sl = v) (hx : a.eval x = v2) {v' : Value} {w' : World}
  (hr : ∀ ty, (Builtin.append_ #[t, u] ty #[v, v2]).run P w = .ok v' w') (h : K (a.put o.dst v') w') : if Region.wanted o (yielded ops a.tmps) = true then Oper.wp P o a w K Q else E := by
 have hw : Region.wanted o (yielded ops a.tmps) = true := by simp [Region.wanted, hgd]
 rw [if_pos hw]
 have hr := hr o.type
 unfold Oper.wp execOp
 simp only [ho, resolve, invoke, builtin, Sem.run_bind, Sem.run_pure, Result.andThen_ok, List.map_toArray, List.map_cons, List.map_nil, hs, hx, hr]
 exact h
theorem app1 (t e : TypeId) (z : Value) (size bytes : Nat) (ht : Tryz.prog.underlying t = some (.slice e)) (hinfo : (Tryz.prog.info? e).map (fun i => (i.zero, i.size, i.bytes)) = some (some z, size, bytes)) (hzs : z.cells.size = size) (hsz : 0 < size) (hby : bytes <= 1000)
  {w : World} {base n : Nat} {v : Value} {xs : List Value} (ho : w.ownsRow base e size v n xs) (hb : base <= w.heap.size) (news : List Value) (hl : news.length = size) (g : Nat) (hg : w.heap[g]? = some (.cells news.toArray e (0, 0))) (h1 : ∀ u ∈ news, u.oneCell' = true) (hn : n <= 1000000) :
  ∃ v' w', (∀ ty, (Builtin.append_ #[t, t] ty #[v, .slice (some ⟨g, 0, none⟩) 1 1]).run Tryz.prog w = .ok v' w') /\ w'.ownsRow base e size v' (n + 1) (xs ++ news) /\ w.grownBy w' v.ownBlock := by
 obtain ⟨i, hi, hz0, hz1, hz2⟩ := info_parts hinfo
 have hb2 : (n + 1) * bytes <= 140737488355328 := Nat.le_trans (Nat.mul_le_mul (Nat.add_le_add_right hn 1) hby) (by decide)
 obtain ⟨v', w', hr, h2, h3, _⟩ := run_append_own (P := Tryz.prog) w base t 0 e i z size bytes ht hi hz0 hz1 hz2 hzs hsz v n xs ho ⟨g, 0, none⟩ 1 1 news (by omega) (fun j u hj => by
  have hadd : (⟨g, 0, none⟩ : Addr).add j = ⟨g, 0 + j, none⟩ := by unfold Addr.add; split <;> simp_all
  rw [hadd, Nat.zero_add]
  exact qB hg (by simpa using hj)) h1 (by unfold maxLen; omega) hb2 hb
 exact ⟨v', w', fun ty => hr, h2, h3⟩
def lnC (ps : List (Value × Int)) : List Value := ps.flatMap fun p => [p.1, .int .i64 p.2]
theorem qIB : (Tryz.prog.info? 145).map (fun i => (i.zero, i.size, i.bytes)) = some (some (.agg #[.slice none 0 0, .int .i64 0]), 2, 32) := by kernel_rfl
structure WR (w : World) (base gw : Nat) (lv : Value) (mb : Nat) (k : Int) (ps : List (Value × Int)) : Prop where
 box : w.heap[gw]? = some (.cells #[lv, .slice none 0 0, .map (some mb), .int .i64 k] 134 (0, 0))
 row : w.ownsRow base 145 2 lv ps.length (lnC ps)
 mp : w.heap[mb]? = some (.map #[] 0)
 lt : gw < base
theorem qG {w : World} {base n size : Nat} {e : TypeId} {v : Value} {xs : List Value} (h : w.ownsRow base e size v n xs) : ∃ la lc, v = .slice la n lc := by
 rcases h.2 with ⟨rfl, rfl, _⟩ | ⟨g, cap, cur, rfl, _⟩
 ·exact ⟨none, 0, rfl⟩
 ·exact ⟨_, _, rfl⟩
theorem qAY {w : World} {base n size g : Nat} {e t : TypeId} {v : Value} {xs : List Value} {c : Array Value} {f : Nat × Nat} (h : w.ownsRow base e size v n xs) (hg : w.heap[g]? = some (.cells c t f)) (ht : t ≠ e) : some g ≠ v.ownBlock := by
 rcases h.2 with ⟨rfl, _⟩ | ⟨g', cap, cur, rfl, _, hgg, _⟩
 ·simp [Value.ownBlock]
 ·intro e0
  simp only [Value.ownBlock, Option.some.injEq] at e0
  subst e0
  rw [hg] at hgg
  injection hgg with hgg
  injection hgg with _ h2
  exact ht h2
theorem qGn {w : World} {base n size g : Nat} {e : TypeId} {v : Value} {xs : List Value} {c : Array MapEntry} {f : Nat} (h : w.ownsRow base e size v n xs) (hg : w.heap[g]? = some (.map c f)) : some g ≠ v.ownBlock := by
 rcases h.2 with ⟨rfl, _⟩ | ⟨g', cap, cur, rfl, _, hgg, _⟩
 ·simp [Value.ownBlock]
 ·intro e0
  simp only [Value.ownBlock, Option.some.injEq] at e0
  subst e0
  rw [hg] at hgg
  cases hgg
theorem qAr {w : World} {base n size M o : Nat} {e : TypeId} {v x : Value} {xs : List Value} (h : w.ownsRow base e size v n xs) (hM : M < base) : (w.setCell ⟨M, o, none⟩ x).ownsRow base e size v n xs :=
 h.kept (gset w M o x) (by
  cases hv : v.ownBlock with
  | none => exact .inl rfl
  | some k => exact .inr (fun e => by cases e; have := (h.lt _ hv).1; omega))
structure Fr (g B : Nat) (w w' : World) : Prop where
 os : w'.os = w.os
 tape : w'.tape = w.tape
 output : w'.output = w.output
 size : w.heap.size <= w'.heap.size
 block : ∀ i, i < B -> i ≠ g -> w'.heap[i]? = w.heap[i]?
theorem Fr.refl (g B : Nat) (w : World) : Fr g B w w := ⟨rfl, rfl, rfl, Nat.le_refl _, fun _ _ _ => rfl⟩
theorem Fr.trans {g B : Nat} {a b c : World} (h : Fr g B a b) (k : Fr g B b c) : Fr g B a c := ⟨k.os.trans h.os, k.tape.trans h.tape, k.output.trans h.output, Nat.le_trans h.size k.size, fun i hi hg => (k.block i hi hg).trans (h.block i hi hg)⟩
theorem Fr.below {g B : Nat} {w w' : World} (h : Below B w w') : Fr g B w w' := ⟨h.os, h.tape, h.output, h.size, fun i hi _ => h.block i hi⟩
theorem Fr.grown {g B : Nat} {w w' : World} {r : Option Nat} (h : w.grownBy w' r) (hB : B <= w.heap.size) (hr : ∀ k, r = some k -> k = g \/ B <= k) : Fr g B w w' :=
 ⟨h.os, h.tape, h.output, h.size, fun i hi hg => h.block i (by omega) (fun e => by rcases hr i e.symm with h | h <;> omega)⟩
theorem Fr.of {g B : Nat} {w w' : World} (h : w.grownBy w' (some g)) (hB : B <= w.heap.size) : Fr g B w w' := Fr.grown h hB fun k e => .inl (by cases e; rfl)
theorem qLW (gw mb : Nat) (lv : Value) (k : Int) (ps : List (Value × Int)) (ad : Option Addr) (len cap : Nat) (p : Int) (w : World) (B : Nat) (hB : B <= w.heap.size) (h : WR w B gw lv mb k ps) (hl : ps.length < 200) :
  Calls Tryz.prog 124 #[.pointer (some ⟨gw, 0, none⟩), .agg #[.slice ad len cap, .int .i64 p]] w fun r w' => r = .returned (.int .i64 0) /\ (∃ lv', WR w' B gw lv' mb k (ps ++ [(.slice ad len cap, p)])) /\ Fr gw B w w' /\ (∀ i, i < w.heap.size -> i ≠ gw -> some i ≠ lv.ownBlock -> w'.heap[i]? = w.heap[i]?) := by
 obtain ⟨la, lc, rfl⟩ := qG h.row
 have c0 : w.cell? ⟨gw, 0, none⟩ = some (.slice la ps.length lc) := qB h.box rfl
 have hg := qC h.box
 have hl' : ((ps.length : Int) == 200) = false := by simp; omega
 have hrow : (((w.alloc (.cells #[.slice ad len cap, .int .i64 p] 145)).alloc (.cells #[.slice ad len cap, .int .i64 p] 145)).drew).ownsRow B 145 2 (.slice la ps.length lc) ps.length (lnC ps) := (h.row.alloc _).alloc _
 obtain ⟨v', w', happ, hr', hgr⟩ := app1 99 145 _ 2 32 Tryz.underlying99 qIB rfl (by decide) (by decide) hrow (by simp; omega) [.slice ad len cap, .int .i64 p] rfl (w.heap.size + 1) (qH _ _ (by simp)) (by intro u hu; simp at hu; rcases hu with rfl | rfl <;> rfl) (by omega)
 have hbox : (((w.alloc (.cells #[.slice ad len cap, .int .i64 p] 145)).alloc (.cells #[.slice ad len cap, .int .i64 p] 145)).drew).heap[gw]? = some (.cells #[.slice la ps.length lc, .slice none 0 0, .map (some mb), .int .i64 k] 134 (0, 0)) := by
  show (World.alloc _ _).heap[gw]? = _
  rw [old2 _ _ (by simp; omega), old2 _ _ hg]
  exact h.box
 have hmp : (((w.alloc (.cells #[.slice ad len cap, .int .i64 p] 145)).alloc (.cells #[.slice ad len cap, .int .i64 p] 145)).drew).heap[mb]? = some (.map #[] 0) := by
  have hm := qC h.mp
  show (World.alloc _ _).heap[mb]? = _
  rw [old2 _ _ (by simp; omega), old2 _ _ hm]
  exact h.mp
 obtain ⟨la', lc', rfl⟩ := qG hr'
 have hbox' := (hgr.block gw (qC hbox) (qAY hrow hbox (by decide))).trans hbox
 have hmp' := (hgr.block mb (qC hmp) (qGn hrow hmp)).trans hmp
 have HF : Hid (Fr gw B w w') := by
  refine Fr.trans (Fr.below (by go_grown)) (Fr.grown hgr (by go_size) ?_)
  intro q hq
  exact .inr (hrow.lt q hq).1
 have HO : Hid (∀ i, i < w.heap.size -> i ≠ gw -> some i ≠ (Value.slice la ps.length lc).ownBlock -> w'.heap[i]? = w.heap[i]?) := fun i hi h1 h2 => by
  rw [hgr.block i (by go_size) h2]
  show (World.alloc _ _).heap[i]? = _
  rw [old2 _ _ (by go_size), old2 _ _ hi]
 have HW : Hid (WR (w'.setCell ⟨gw, 0, none⟩ (.slice la' (ps.length + 1) lc')) B gw (.slice la' (ps.length + 1) lc') mb k (ps ++ [(.slice ad len cap, p)])) := by
  refine ⟨qJ hbox', ?_, ?_, h.lt⟩
  ·have e : (ps ++ [(Value.slice ad len cap, p)]).length = ps.length + 1 := by simp
   have e2 : lnC (ps ++ [(Value.slice ad len cap, p)]) = lnC ps ++ [.slice ad len cap, .int .i64 p] := by simp [lnC]
   rw [e, e2]
   exact qAr hr' h.lt
  ·rw [Below.heap_setCell _ _ _ _ (by intro e; subst e; rw [hbox'] at hmp'; cases hmp')]
   exact hmp'
 have d0 : w'.cell? ⟨gw, 0, none⟩ = some (.slice la ps.length lc) := qB hbox' rfl
 have f0 : w'.frozen? ⟨gw, 0, none⟩ = false := qD hbox'
 have hg' := qC hbox'
 clear hrow hr' hgr hbox hmp hbox' hmp' h
 go_enter Tryz.func124, Tryz.ntmps124
 go_wp2_with fail
 go_region_law (refine qCJ rfl _ _ _ _ rfl _ _ rfl rfl happ ?_)
 all_goals
  go_wp2
  go_ret
  exact ⟨rfl, ⟨_, HW.out⟩, HF.out.trans (Fr.of (gset w' gw 0 _) (Nat.le_trans hB HF.out.size)), fun i hi h1 h2 => by rw [Below.heap_setCell _ _ _ _ h1]; exact HO.out i hi h1 h2⟩
theorem qGF (mb : Nat) (s : ByteArray) (w : World) (h : w.heap[mb]? = some (.map #[] 0)) : (Instr.lookup 132 (.map (some mb)) (.string s) true).run Tryz.prog w = .ok (.tuple #[.nilFunc, .bool false]) w := by
 have hz : (zeroValue 222).run Tryz.prog w = .ok .nilFunc w := by kernel_rfl
 have hu : (underlying 132).run Tryz.prog w = .ok (.map 9 222) w := by kernel_rfl
 have hg : (getObj mb).run Tryz.prog w = .ok (.map #[] 0) w := by simp [getObj, Sem.run, h]
 have hk : (Instr.checkKey (#[] : Array MapEntry).isEmpty 10000 9 (.string s)).run Tryz.prog w = .ok () w := by kernel_rfl
 have hf : (Instr.findKey 9 (.string s) (#[] : Array MapEntry).toList).run Tryz.prog w = .ok none w := by kernel_rfl
 unfold Instr.lookup
 simp only [Sem.run_bind, hu, hg, hk, hf, hz, Result.andThen_ok, Sem.run_pure]
 rfl
def heads : List (List UInt8) := [[46, 109, 97, 99, 114, 111], [46, 114, 101, 112, 116], [46, 105, 102], [46, 101, 110, 100, 109], [46, 101, 110, 100, 114], [46, 101, 110, 100, 105, 102], [46, 101, 108, 115, 101], [46, 101, 113, 117]]
def qZ (s : ByteArray) : Prop := ∀ h, h ∈ heads -> (s.toList == h) = false
theorem WR.go {w w' : World} {B gw : Nat} {lv : Value} {mb : Nat} {k : Int} {ps : List (Value × Int)} (h : WR w B gw lv mb k ps) (hb : Below w.heap.size w w') : WR w' B gw lv mb k ps :=
 ⟨by rw [hb.block _ (qC h.box)]; exact h.box, Sc.qd h.row hb (Nat.le_refl _), by rw [hb.block _ (qC h.mp)]; exact h.mp, h.lt⟩
theorem WR.put {w : World} {B gw : Nat} {lv : Value} {mb : Nat} {k : Int} {ps : List (Value × Int)} (h : WR w B gw lv mb k ps) {q : Nat} {c : Array Value} {t : TypeId} {f : Nat × Nat} (hq : w.heap[q]? = some (.cells c t f)) (h1 : t ≠ 145) (h2 : t ≠ 134) (i : Nat) (x : Value) :
  WR (w.setCell ⟨q, i, none⟩ x) B gw lv mb k ps := by
 refine ⟨?_, h.row.kept (gset w q i x) ?_, ?_, h.lt⟩
 ·rw [Below.heap_setCell _ _ _ _ (by intro e; subst e; rw [h.box] at hq; injection hq with hq; injection hq with _ h3; exact h2 h3.symm)]
  exact h.box
 ·exact .inr (fun e => qAY h.row hq h1 e.symm)
 ·rw [Below.heap_setCell _ _ _ _ (by intro e; subst e; rw [h.mp] at hq; cases hq)]
  exact h.mp
def Var2 (w : World) (R : Nat) (a b : Value) : Prop := (w.cell? ⟨R, 0, none⟩ = some a /\ w.cell? ⟨R, 1, none⟩ = some b) /\ w.frozen? ⟨R, 0, none⟩ = false /\ w.frozen? ⟨R, 1, none⟩ = false
theorem qo {w : World} {R : Nat} {a b : Value} {t : TypeId} (h : w.heap[R]? = some (.cells #[a, b] t (0, 0))) : Var2 w R a b := by
 refine ⟨⟨?_, ?_⟩, ?_, ?_⟩ <;> simp [World.cell?, World.frozen?, h]
theorem step_any (gw mb : Nat) (lv : Value) (k : Int) (ps : List (Value × Int)) (b o n cap : Nat) (ad : Option Addr) (len lcap : Nat) (p d : Int) (ts : List Tk) (w : World) (B : Nat) (hB : B <= w.heap.size) (h : WR w B gw lv mb k ps) (hl : ps.length < 200)
  (c0 : w.cell? ⟨b, o, none⟩ = some (.slice ad len lcap)) (c1 : w.cell? ⟨b, o + 1, none⟩ = some (.int .i64 p)) (hb : b < w.heap.size) (ht : qI w (.slice ad len lcap) ts) (hp : qZ (qA0 ts)) :
  Calls Tryz.prog 88 #[.pointer (some ⟨gw, 0, none⟩), .slice (some ⟨b, o, none⟩) (n + 1) cap, .int .i64 d] w fun r w' => r = .returned (.tuple #[.int .i64 1, .agg #[.int .i64 0, .int .i64 0]]) /\ (∃ lv', WR w' B gw lv' mb k (ps ++ [(.slice ad len lcap, p)])) /\ Fr gw B w w' /\ (∀ i, i < w.heap.size -> i ≠ gw -> some i ≠ lv.ownBlock -> w'.heap[i]? = w.heap[i]?) := by
 have HH := Lib.hid fun W (hb : Below w.heap.size w W) => qBx (.slice ad len lcap) ts W (ht.below hb (Nat.le_refl _))
 generalize qA0 ts = s at *
 have q0 := hp _ (List.mem_of_getElem? (show heads[0]? = _ from rfl))
 have q1 := hp _ (List.mem_of_getElem? (show heads[1]? = _ from rfl))
 have q2 := hp _ (List.mem_of_getElem? (show heads[2]? = _ from rfl))
 have q3 := hp _ (List.mem_of_getElem? (show heads[3]? = _ from rfl))
 have q4 := hp _ (List.mem_of_getElem? (show heads[4]? = _ from rfl))
 have q5 := hp _ (List.mem_of_getElem? (show heads[5]? = _ from rfl))
 have q6 := hp _ (List.mem_of_getElem? (show heads[6]? = _ from rfl))
 have q7 := hp _ (List.mem_of_getElem? (show heads[7]? = _ from rfl))
 have hW : ∀ W, Below w.heap.size w W -> WR W B gw lv mb k ps := fun W hb => ⟨by rw [hb.block _ (qC h.box)]; exact h.box, Sc.qd h.row hb (Nat.le_refl _), by rw [hb.block _ (qC h.mp)]; exact h.mp, h.lt⟩
 have HS := Lib.hid fun W (hb : Below w.heap.size w W) => qLW gw mb lv k ps ad len lcap p W B (Nat.le_trans hB hb.size) (hW W hb) hl
 have HW := Lib.hid hW
 clear hW h ht hp
 go_enter Tryz.func88, Tryz.ntmps88
 go_wp2_with fail
 refine (HH.out _ (by go_grown)).mono ?_
 rintro e w1 ⟨rfl, hb1⟩
 have HB1 : Hid (Below w.heap.size w w1) := by
  refine Below.trans ?_ (hb1.mono (by go_size))
  go_grown
 have x0 : w1.heap[w.heap.size]? = some (.cells #[.int .i64 0, .int .i64 0] 36 (0, 0)) := by
  rw [hb1.block _ (by go_size), old2 _ _ (by go_size)]
  exact qH _ _ (by go_size)
 have x1 : w1.heap[w.heap.size + 1]? = some (.cells #[.slice ad len lcap, .int .i64 p] 145 (0, 0)) := by
  rw [hb1.block _ (by go_size)]
  exact qH _ _ (by go_size)
 have y0 : w1.cell? ⟨w.heap.size + 1, 0, none⟩ = some (.slice ad len lcap) := qB x1 rfl
 have y1 : w1.cell? ⟨w.heap.size + 1, 1, none⟩ = some (.int .i64 p) := qB x1 rfl
 have hm := qGF mb s w1 (HW.out w1 HB1.out).mp
 have hg1 : w1.cell? ⟨gw, 2, none⟩ = some (.map (some mb)) := qB (HW.out w1 HB1.out).box rfl
 have X0 := Lib.hid x0
 have X1 := Lib.hid x1
 have hz1 := qC x1
 have HO : Hid (∀ i, w.heap.size <= i -> i ≠ gw /\ some i ≠ lv.ownBlock) := fun i hi => ⟨fun e => by have := qC (HW.out w (Below.refl _ _)).box; omega, fun e => by have := ((HW.out w (Below.refl _ _)).row.lt i e.symm).2; omega⟩
 have HF := Lib.hid fun W => qEE (.slice ad len lcap) p 0 W
 simp only [if_true] at HF
 clear hb1 x0 x1 HH
 go_wp2_with fail
 go_region_with (first
  | (go_at_call 124; refine (HS.out _ (HB1.out.drew)).mono ?_; rintro e w2 ⟨rfl, hw2, hf2, ho2⟩; have x2 : w2.heap[w.heap.size + 1]? = some (.cells #[.slice ad len lcap, .int .i64 p] 145 (0, 0)) := (ho2 _ hz1 (HO.out _ (by omega)).1 (HO.out _ (by omega)).2).trans X1.out; have z0 : w2.cell? ⟨w.heap.size + 1, 0, none⟩ = some (.slice ad len lcap) := qB x2 rfl; have z1 : w2.cell? ⟨w.heap.size + 1, 1, none⟩ = some (.int .i64 p) := qB x2 rfl; have X2 := Lib.hid ((ho2 _ (by show w.heap.size < w1.heap.size; omega) (HO.out _ (by omega)).1 (HO.out _ (by omega)).2).trans X0.out); have hz2 := qC x2; have HW2 := Lib.hid hw2; have HF2 := Lib.hid hf2; have HO2 := Lib.hid ho2; clear x2 hw2 hf2 ho2)
  | (go_at_call 87; refine (HF.out _).mono ?_; rintro e w3 ⟨rfl, hb3⟩; obtain ⟨⟨u0, u1⟩, f0, f1⟩ := qo ((hb3.block _ (by show w.heap.size < w2.heap.size; omega)).trans X2.out); have HB3 := Lib.hid hb3; clear hb3))
 all_goals
  go_wp2
  refine bodyPost_ret (v := .tuple #[.int .i64 1, .agg #[.int .i64 0, .int .i64 0]]) (by simp [results, Tryz.results88, go_sem, u0, u1]) rfl ⟨rfl, ?_, ?_, ?_⟩
  ·obtain ⟨lv', h2⟩ := HW2.out
   have x3 := (HB3.out.block _ (by show w.heap.size < w2.heap.size; omega)).trans X2.out
   exact ⟨lv', ((h2.go HB3.out).put x3 (by decide) (by decide) 0 _).put (qJ x3) (by decide) (by decide) 1 _⟩
  ·have h0 : B <= w2.heap.size := by omega
   exact ((Fr.below (HB1.out.drew.mono hB)).trans HF2.out).trans (Fr.below (((HB3.out.mono h0).setCell hB _).setCell hB _))
  ·intro i hi h1 h2
   rw [Below.heap_setCell _ _ _ _ (by show i ≠ w.heap.size; omega), Below.heap_setCell _ _ _ _ (by show i ≠ w.heap.size; omega), HB3.out.block i (by omega), HO2.out i (by show i < w1.heap.size; omega) h1 h2]
   exact HB1.out.block i hi
theorem WR.look {w : World} {B gw : Nat} {lv : Value} {mb : Nat} {k : Int} {ps : List (Value × Int)} (h : WR w B gw lv mb k ps) (k' : Int) : WR (w.setCell ⟨gw, 3, none⟩ (.int .i64 k')) B gw lv mb k' ps :=
 ⟨qJ h.box, qAr h.row h.lt, by rw [Below.heap_setCell _ _ _ _ (by intro e; subst e; have := h.box.symm.trans h.mp; cases this)]; exact h.mp, h.lt⟩
def lenV : Value -> Nat
 | .slice _ n _ => n
 | _ => 0
theorem qLq (gw mb : Nat) (lv : Value) (k : Int) (ps : List (Value × Int)) (b o cap : Nat) (ls : List (Value × Int)) (ts : List (List Tk)) (d : Int) (w : World) (B : Nat) (hB : B <= w.heap.size) (h : WR w B gw lv mb k ps) (hd0 : 0 <= d) (hd : d <= 6)
  (hl : ps.length + ls.length <= 200) (hk0 : 0 <= k) (hk : k + ls.length <= 4000) (hcap : ls.length <= cap) (hmax : cap <= maxLen)
  (hts : ts.length = ls.length) (hL : ∀ W, Fr gw B w W -> b < W.heap.size /\ ∀ i (h : i < ls.length), (∃ ad len lcap, ls[i].1 = .slice ad len lcap) /\ W.cell? ⟨b, o + i * 2, none⟩ = some ls[i].1 /\ W.cell? ⟨b, o + i * 2 + 1, none⟩ = some (.int .i64 ls[i].2) /\ qI W ls[i].1 (ts[i]'(by omega)))
  (hp : ∀ t, t ∈ ts -> qZ (qA0 t)) :
  Calls Tryz.prog 68 #[.pointer (some ⟨gw, 0, none⟩), .slice (some ⟨b, o, none⟩) ls.length cap, .int .i64 d] w fun r w' => r = .returned (.agg #[.int .i64 0, .int .i64 0]) /\ (∃ lv', WR w' B gw lv' mb (k + ls.length) (ps ++ ls)) /\ Fr gw B w w' := by
 have HL := Lib.hid hL
 have HP := Lib.hid hp
 have H0 := Lib.hid h
 have hg := qC h.box
 clear hL hp h
 have hd' : ¬ (6 : Int) < d := by omega
 have HI : Hid (∃ lv', WR (w.alloc (.cells #[.int .i64 0, .int .i64 0] 36)) B gw lv' mb (k + (0 : Nat)) (ps ++ ls.take 0)) := ⟨lv, by simpa using H0.out.go (qE w _)⟩
 have HR : Hid ((w.alloc (.cells #[.int .i64 0, .int .i64 0] 36)).heap[w.heap.size]? = some (.cells #[.int .i64 0, .int .i64 0] 36 (0, 0))) := qH _ _ rfl
 go_enter Tryz.func68, Tryz.ntmps68
 go_wp2_with fail
 go_loopw [1] (fun v wr => ∃ (j : Nat) (ad : Option Addr), j <= ls.length /\ v = .slice ad (ls.length - j) (cap - j) /\ Hid (j < ls.length -> ad = some ⟨b, o + j * 2, none⟩) /\ Hid (∃ lv', WR wr B gw lv' mb (k + j) (ps ++ ls.take j)) /\ Hid (Fr gw B w wr) /\ Hid (wr.heap[w.heap.size]? = some (.cells #[.int .i64 0, .int .i64 0] 36 (0, 0)))) (fun v _ => lenV v)
 case atStart => exact ⟨0, _, Nat.zero_le _, rfl, fun _ => by simp, HI, Fr.below ((qE w _).mono hB), HR⟩
 case round =>
  obtain ⟨j, ad, hj, rfl, HA, HW, HF, HX⟩ := hrel
  clear HI HR H0
  by_cases hlt : j < ls.length
  ·obtain ⟨lv1, hw1⟩ := HW.out
   obtain ⟨hb0, hrow⟩ := HL.out wr HF.out
   obtain ⟨⟨ad1, len1, lcap1, e1⟩, r0, r1, r2⟩ := hrow j hlt
   rw [e1] at r0 r2
   have c3 : wr.cell? ⟨gw, 3, none⟩ = some (.int .i64 (k + j)) := qB hw1.box rfl
   have f3 : wr.frozen? ⟨gw, 3, none⟩ = false := qD hw1.box
   have hg1 := qC hw1.box
   have e2 := HA.out hlt
   subst e2
   obtain ⟨n, en⟩ : ∃ n, ls.length - j = n + 1 := ⟨ls.length - j - 1, by omega⟩
   obtain ⟨c, ec⟩ : ∃ c, cap - j = c + 1 := ⟨cap - j - 1, by omega⟩
   have hc : c + 1 <= maxLen := by omega
   have hnc : n <= c := by omega
   rw [en, ec]
   have hkk : ¬ (4000 : Int) < k + j + 1 := by omega
   have hkk2 : k + (j : Int) + 1 <= 4000 := by omega
   have hW2 : WR (wr.setCell ⟨gw, 3, none⟩ (.int .i64 (k + j + 1))) B gw lv1 mb (k + j + 1) (ps ++ ls.take j) := hw1.look _
   have hF2 : Fr gw B w (wr.setCell ⟨gw, 3, none⟩ (.int .i64 (k + j + 1))) := HF.out.trans (Fr.of (gset _ _ _ _) (Nat.le_trans hB HF.out.size))
   obtain ⟨hb2, hrow2⟩ := HL.out _ hF2
   obtain ⟨_, s0, s1, s2⟩ := hrow2 j hlt
   rw [e1] at s0 s2
   have HS := Lib.hid (step_any gw mb lv1 (k + j + 1) (ps ++ ls.take j) b (o + j * 2) n (c + 1) ad1 len1 lcap1 ls[j].2 d (ts[j]'(by omega)) _ B (by simpa using Nat.le_trans hB HF.out.size) hW2 (by simp; omega) s0 s1 hb2 s2 (HP.out _ (List.getElem_mem _)))
   have HX2 : Hid ((wr.setCell ⟨gw, 3, none⟩ (.int .i64 (k + j + 1))).heap[w.heap.size]? = some (.cells #[.int .i64 0, .int .i64 0] 36 (0, 0))) := by
    unfold Hid
    rw [Below.heap_setCell _ _ _ _ (by show w.heap.size ≠ gw; omega)]
    exact HX.out
   have HRB : Hid (some w.heap.size ≠ lv1.ownBlock) := qAY hw1.row HX.out (by decide)
   have HF3 := Lib.hid hF2
   have HT : Hid (ls.take (j + 1) = ls.take j ++ [(.slice ad1 len1 lcap1, ls[j].2)]) := by
    unfold Hid
    rw [List.take_succ_eq_append_getElem hlt, <- e1]
   clear hw1 hrow r0 r1 r2 hW2 hF2 hrow2 s0 s1 s2 hb2 HW HF HX
   obtain ⟨ad', HA'⟩ : ∃ ad' : Option Addr, Hid ((if c = 0 then some (⟨b, o + j * 2, none⟩ : Addr) else some ⟨b, o + j * 2 + 2, none⟩) = ad') := ⟨_, Lib.hid rfl⟩
   go_wp2_with (go_at_call 88; refine HS.out.mono ?_; rintro e w2 ⟨rfl, hw2, hf2, ho2⟩; have HW2 := Lib.hid hw2; have HF2 := Lib.hid hf2; have HX3 := Lib.hid ((ho2 _ (by simpa using qC HX2.out) (by omega) HRB.out).trans HX2.out); clear hw2 hf2 ho2)
   refine ⟨⟨j + 1, _, by omega, by rw [show ls.length - (j + 1) = n by omega, show cap - (j + 1) = c by omega], fun h => ?_, ?_, ?_, ?_⟩, by simp [lenV]⟩
   ·rw [if_neg (by omega), show o + (j + 1) * 2 = o + j * 2 + 2 by omega]
   ·obtain ⟨lv', h2⟩ := HW2.out
    refine ⟨lv', ?_⟩
    rw [HT.out, <- List.append_assoc, show k + ((j + 1 : Nat) : Int) = k + j + 1 by omega]
    exact h2.go (qE _ _)
   ·exact (HF3.out.trans HF2.out).trans (Fr.below ((qE _ _).mono (Nat.le_trans hB (HF3.out.trans HF2.out).size)))
   ·unfold Hid
    rw [old2 _ _ (qC HX3.out)]
    exact HX3.out
  ·obtain rfl : j = ls.length := by omega
   obtain ⟨⟨u0, u1⟩, f0, f1⟩ := qo HX.out
   have hz := qC HX.out
   have e0 : ls.length - ls.length = 0 := by omega
   rw [e0]
   clear HA
   go_wp2
   refine bodyPost_ret (v := .agg #[.int .i64 0, .int .i64 0]) (by simp [results, Tryz.results68, go_sem, u0, u1]) rfl ⟨rfl, ?_, ?_⟩
   ·obtain ⟨lv', h2⟩ := HW.out
    refine ⟨lv', ?_⟩
    rw [List.take_length] at h2
    exact (h2.put HX.out (by decide) (by decide) 0 _).put (qJ HX.out) (by decide) (by decide) 1 _
   ·exact HF.out.trans (Fr.below (((Below.refl _ _).setCell hB _).setCell hB _))
theorem makeL (n : Nat) (h : n <= 100000) (w : World) : (Instr.makeSlice 99 (.int .i64 (n : Int)) (.int .i64 (n : Int))).run Tryz.prog w = .ok (.slice (some ⟨w.heap.size, 0, none⟩) n n) (w.alloc (.cells (madeCells #[.slice none 0 0, .int .i64 0] (n * 2)) 145)) := by
 obtain ⟨i, hi, hz0, hz1, hz2⟩ := info_parts qIB
 have := run_make (P := Tryz.prog) (w := w) 99 145 i _ Tryz.underlying99 hi hz0 .i64 .i64 n n (by omega) (Int.le_refl _) (by rw [hz2]; omega) (by omega)
 rw [hz1] at this
 have e : (Value.agg #[.slice none 0 0, .int .i64 0]).cells = #[.slice none 0 0, .int .i64 0] := rfl
 rw [e] at this
 simpa using this
def RowL (W : World) (g n : Nat) (f : Nat -> Value × Int) : Prop := ∃ cs : Array Value, W.heap[g]? = some (.cells cs 145 (0, 0)) /\ cs.size = n * 2 /\ ∀ i, i < n -> cs[i * 2]? = some (f i).1 /\ cs[i * 2 + 1]? = some (.int .i64 (f i).2)
theorem RowL.made (w : World) (n : Nat) : RowL (w.alloc (.cells (madeCells #[.slice none 0 0, .int .i64 0] (n * 2)) 145)) w.heap.size n fun _ => (.slice none 0 0, 0) := by
 refine ⟨_, qH _ _ rfl, size_madeCells _ _, fun i hi => ⟨?_, ?_⟩⟩
 ·rw [madeCells, Array.getElem?_map, Array.getElem?_range, if_pos (by omega)]
  simp
 ·rw [madeCells, Array.getElem?_map, Array.getElem?_range, if_pos (by omega)]
  simp [Nat.add_mod]
theorem RowL.cell0 {W : World} {g n : Nat} {f : Nat -> Value × Int} (h : RowL W g n f) {i : Nat} (hi : i < n) : W.cell? ⟨g, i * 2, none⟩ = some (f i).1 := by
 obtain ⟨cs, hb, _, hc⟩ := h
 exact qB hb (hc i hi).1
theorem RowL.cell1 {W : World} {g n : Nat} {f : Nat -> Value × Int} (h : RowL W g n f) {i : Nat} (hi : i < n) : W.cell? ⟨g, i * 2 + 1, none⟩ = some (.int .i64 (f i).2) := by
 obtain ⟨cs, hb, _, hc⟩ := h
 exact qB hb (hc i hi).2
theorem RowL.froz {W : World} {g n : Nat} {f : Nat -> Value × Int} (h : RowL W g n f) (i : Nat) : W.frozen? ⟨g, i, none⟩ = false := by
 obtain ⟨cs, hb, _, hc⟩ := h
 exact qD hb
theorem RowL.lt {W : World} {g n : Nat} {f : Nat -> Value × Int} (h : RowL W g n f) : g < W.heap.size := by
 obtain ⟨cs, hb, _, hc⟩ := h
 exact qC hb
theorem RowL.keep {W W' : World} {g n : Nat} {f : Nat -> Value × Int} (h : RowL W g n f) (hb : W'.heap[g]? = W.heap[g]?) : RowL W' g n f := by
 obtain ⟨cs, h1, h2⟩ := h
 exact ⟨cs, by rw [hb]; exact h1, h2⟩
theorem RowL.set0 {W : World} {g n : Nat} {f : Nat -> Value × Int} (h : RowL W g n f) {k : Nat} (hk : k < n) (v : Value) : RowL (W.setCell ⟨g, k * 2, none⟩ v) g n fun i => if i = k then (v, (f i).2) else f i := by
 obtain ⟨cs, h1, h2, h3⟩ := h
 refine ⟨_, qJ h1, by simpa using h2, fun i hi => ?_⟩
 obtain ⟨a, b⟩ := h3 i hi
 dsimp only
 by_cases e : i = k
 ·subst e
  rw [if_pos rfl]
  refine ⟨?_, ?_⟩
  ·rw [Array.getElem?_setIfInBounds_self_of_lt (by omega)]
  ·rw [Array.getElem?_setIfInBounds_ne (by omega)]; exact b
 ·rw [if_neg e, Array.getElem?_setIfInBounds_ne (by omega), Array.getElem?_setIfInBounds_ne (by omega)]
  exact ⟨a, b⟩
theorem RowL.set1 {W : World} {g n : Nat} {f : Nat -> Value × Int} (h : RowL W g n f) {k : Nat} (hk : k < n) (p : Int) : RowL (W.setCell ⟨g, k * 2 + 1, none⟩ (.int .i64 p)) g n fun i => if i = k then ((f i).1, p) else f i := by
 obtain ⟨cs, h1, h2, h3⟩ := h
 refine ⟨_, qJ h1, by simpa using h2, fun i hi => ?_⟩
 obtain ⟨a, b⟩ := h3 i hi
 dsimp only
 by_cases e : i = k
 ·subst e
  rw [if_pos rfl]
  refine ⟨?_, ?_⟩
  ·rw [Array.getElem?_setIfInBounds_ne (by omega)]; exact a
  ·rw [Array.getElem?_setIfInBounds_self_of_lt (by omega)]
 ·rw [if_neg e, Array.getElem?_setIfInBounds_ne (by omega), Array.getElem?_setIfInBounds_ne (by omega)]
  exact ⟨a, b⟩
def tkOf (t : Sc.Tok) : Tk := ⟨t.kind, t.n, ⟨t.text.toArray⟩⟩
def ptCs (ts : List Sc.Tok) : List Value := ts.flatMap fun t => [.int .i64 t.kind, .int .i64 t.n, .string ⟨t.text.toArray⟩, .pointer none]
theorem qKd : (Tryz.prog.info? 180).map (fun i => (i.zero, i.size, i.bytes)) = some (some (.agg #[.int .i64 0, .int .i64 0, .string ⟨#[]⟩, .pointer none]), 4, 40) := by kernel_rfl
theorem qJs : ∀ (ts : List Sc.Tok) (i : Nat) (h : i < ts.length), (ptCs ts)[i * 4]? = some (.int .i64 ts[i].kind) /\ (ptCs ts)[i * 4 + 1]? = some (.int .i64 ts[i].n) /\ (ptCs ts)[i * 4 + 2]? = some (.string ⟨ts[i].text.toArray⟩) /\ (ptCs ts)[i * 4 + 3]? = some (.pointer none)
 | [], i, h => by simp at h
 | t :: r, 0, h => by simp [ptCs]
 | t :: r, i + 1, h => by
   have ih := qJs r i (by simpa using h)
   have e : ptCs (t :: r) = [.int .i64 t.kind, .int .i64 t.n, .string ⟨t.text.toArray⟩, .pointer none] ++ ptCs r := by simp [ptCs]
   rw [e, show (i + 1) * 4 = 4 + i * 4 by omega]
   simp only [List.getElem_cons_succ]
   refine ⟨?_, ?_, ?_, ?_⟩
   ·rw [List.getElem?_append_right (by simp)]; simpa using ih.1
   ·rw [List.getElem?_append_right (by simp; omega)]; simpa [show 4 + i * 4 + 1 - 4 = i * 4 + 1 by omega] using ih.2.1
   ·rw [List.getElem?_append_right (by simp; omega)]; simpa [show 4 + i * 4 + 2 - 4 = i * 4 + 2 by omega] using ih.2.2.1
   ·rw [List.getElem?_append_right (by simp; omega)]; simpa [show 4 + i * 4 + 3 - 4 = i * 4 + 3 by omega] using ih.2.2.2
theorem qLT {W : World} {base : Nat} {v : Value} {ts : List Sc.Tok} (h : W.ownsRow base 180 4 v ts.length (ptCs ts)) : qI W v (ts.map tkOf) := by
 rcases id h.2 with ⟨hv, h0⟩ | ⟨g, cap, cur, rfl, hg, hgg, hle, hm, rest⟩
 ·have : ts = [] := List.eq_nil_of_length_eq_zero h0
  subst this hv
  exact qI.nil W
 ·refine ⟨some ⟨g, 0, none⟩, cap, by simp, by simpa using hle, hm, fun _ => ⟨g, 0, rfl, qC hgg, fun i hi => ?_⟩⟩
  simp only [List.length_map] at hi
  obtain ⟨a, b, c, d⟩ := qJs ts i hi
  have hadd : ∀ j, (⟨g, 0, none⟩ : Addr).add j = ⟨g, 0 + j, none⟩ := fun j => by unfold Addr.add; split <;> simp_all
  have k0 := h.cells rfl _ _ a
  have k1 := h.cells rfl _ _ b
  have k2 := h.cells rfl _ _ c
  have k3 := h.cells rfl _ _ d
  rw [hadd] at k0 k1 k2 k3
  simp only [List.getElem_map, tkOf]
  exact ⟨k0, k1, k2, k3⟩
theorem qI.fr {w w' : World} {g B : Nat} {v : Value} {ts : List Tk} (h : qI w v ts) (hv : v.ownBlock ≠ some g) (hf : Fr g B w w') (hB : w.heap.size <= B) : qI w' v ts := by
 obtain ⟨ad, cap, rfl, hc, hm, h⟩ := h
 refine ⟨ad, cap, rfl, hc, hm, fun h0 => ?_⟩
 obtain ⟨b, o, rfl, hlt, hcell⟩ := h h0
 refine ⟨b, o, rfl, Nat.lt_of_lt_of_le hlt hf.size, fun i hi => ?_⟩
 have hne : b ≠ g := fun e => hv (by simp [Value.ownBlock, e])
 have hbk := hf.block b (by omega) hne
 have hc : ∀ j, w'.cell? ⟨b, j, none⟩ = w.cell? ⟨b, j, none⟩ := fun j => by simp only [World.cell?, hbk]
 rw [hc, hc, hc, hc]
 exact hcell i hi
def LIn (w : World) (v : Value) (ls : List Sc.Ln) : Prop :=
 ∃ ad cap, v = .slice ad ls.length cap /\ (0 < ls.length -> ∃ b o, ad = some ⟨b, o, none⟩ /\ b < w.heap.size /\ ∀ i (h : i < ls.length), ∃ tv, w.cell? ⟨b, o + i * 2, none⟩ = some (.int .i64 ls[i].pos) /\ w.cell? ⟨b, o + i * 2 + 1, none⟩ = some tv /\ Sc.qEQ w tv ls[i].toks)
theorem ptCs_app (a : List Sc.Tok) (t : Sc.Tok) : ptCs (a ++ [t]) = ptCs a ++ [.int .i64 t.kind, .int .i64 t.n, .string ⟨t.text.toArray⟩, .pointer none] := by simp [ptCs]
def RdAt (w W : World) (n : Nat) (ls : List Sc.Ln) (k : Nat) (f : Nat -> Value × Int) : Prop :=
 RowL W w.heap.size n f /\ (∀ i (h : i < ls.length), i < k -> (f i).2 = ls[i].pos /\ qI W (f i).1 (ls[i].toks.map tkOf) /\ (∀ j, (f i).1.ownBlock = some j -> w.heap.size < j)) /\ (∀ i, k <= i -> f i = (.slice none 0 0, 0))
theorem LIn.row {w W : World} {ad : Option Addr} {cap : Nat} {ls : List Sc.Ln} (h : LIn w (.slice ad ls.length cap) ls) (hb : Below w.heap.size w W) {k : Nat} (hk : k < ls.length) :
  ∃ b o tv, ad = some ⟨b, o, none⟩ /\ b < w.heap.size /\ W.cell? ⟨b, o + k * 2, none⟩ = some (.int .i64 ls[k].pos) /\ W.cell? ⟨b, o + k * 2 + 1, none⟩ = some tv /\ Sc.qEQ w tv ls[k].toks := by
 obtain ⟨ad', cap', e, h⟩ := h
 injection e with e1 _ e3
 subst e1 e3
 obtain ⟨b, o, rfl, hlt, hc⟩ := h (by omega)
 obtain ⟨tv, h1, h2, h3⟩ := hc k hk
 exact ⟨b, o, tv, rfl, hlt, by rw [hb.cell (by exact hlt)]; exact h1, by rw [hb.cell (by exact hlt)]; exact h2, h3⟩
theorem qDh (v : Value) (ls : List Sc.Ln) (w : World) (h : LIn w v ls) (hn : ls.length <= 100000) (hts : ∀ l, l ∈ ls -> l.toks.length <= 100000) :
  Calls Tryz.prog 69 #[v] w fun r w' => r = .returned (.slice (some ⟨w.heap.size, 0, none⟩) ls.length ls.length) /\ (∃ f, RdAt w w' ls.length ls ls.length f) /\ Below w.heap.size w w' := by
 obtain ⟨ad, cap, rfl, _⟩ := id h
 have HI := Lib.hid h
 have HTS := Lib.hid hts
 clear h hts
 have hm := fun W => makeL ls.length hn W
 have HM := Lib.hid (RowL.made w ls.length)
 go_enter Tryz.func69, Tryz.ntmps69
 go_wp2_with fail
 go_loopw [13] (fun i wr => ∃ k : Nat, k <= ls.length /\ i = .int .i64 k /\ Hid (∃ f, RdAt w wr ls.length ls k f) /\ Hid (Below w.heap.size w wr)) (fun i _ => ls.length - (intOf i).toNat)
 case atStart => exact ⟨0, Nat.zero_le _, rfl, ⟨_, HM.out, fun i h hk => absurd hk (by omega), fun i _ => rfl⟩, qE _ _⟩
 case round =>
  obtain ⟨k, hk, rfl, HR, HB⟩ := hrel
  clear HM
  by_cases hlt : k < ls.length
  ·have hk' : (k : Int) < ls.length := by omega
   obtain ⟨f, hf⟩ := HR.out
   obtain ⟨b, o, tv, rfl, hbl, q0, q1, q2⟩ := HI.out.row HB.out hlt
   obtain ⟨P, hP⟩ : ∃ P, ls[k].pos = P := ⟨_, rfl⟩
   obtain ⟨TS, hTS⟩ : ∃ TS, ls[k].toks = TS := ⟨_, rfl⟩
   rw [hP] at q0
   rw [hTS] at q2
   obtain ⟨td, tc, rfl, hml, _⟩ := id q2
   have hx1 := hf.1.cell1 hlt
   have hfz := hf.1.froz (k * 2 + 1)
   have hgl := hf.1.lt
   have hz := HB.out.size
   have hb2 : b < wr.heap.size := by omega
   have hA : TS.length <= 100000 := by rw [<- hTS]; exact HTS.out _ (List.getElem_mem hlt)
   go_wp2_with fail
   have h1 : RowL ((wr.setCell ⟨w.heap.size, k * 2 + 1, none⟩ (.int .i64 P)).alloc (.cells #[.int .i64 P, .slice td TS.length tc] 131)) w.heap.size ls.length fun i => if i = k then (.slice none 0 0, P) else f i := by
    have := (hf.1.set1 hlt P).keep (W' := (wr.setCell ⟨w.heap.size, k * 2 + 1, none⟩ (.int .i64 P)).alloc (.cells #[.int .i64 P, .slice td TS.length tc] 131)) (old2 _ _ (by simpa using hgl))
    obtain ⟨cs, a1, a2, a3⟩ := this
    refine ⟨cs, a1, a2, fun i hi => ?_⟩
    have := a3 i hi
    by_cases e : i = k
    ·subst e
     simp only [if_true] at this ⊢
     rw [hf.2.2 i (Nat.le_refl _)] at this
     exact this
    ·simp only [if_neg e] at this ⊢
     exact this
   have h2 : Below w.heap.size w ((wr.setCell ⟨w.heap.size, k * 2 + 1, none⟩ (.int .i64 P)).alloc (.cells #[.int .i64 P, .slice td TS.length tc] 131)) := (HB.out.setCell (Nat.le_refl _) _).alloc (by simpa using hz) _
   have h3 : ∀ i (h : i < ls.length), i < k -> (f i).2 = ls[i].pos /\ qI ((wr.setCell ⟨w.heap.size, k * 2 + 1, none⟩ (.int .i64 P)).alloc (.cells #[.int .i64 P, .slice td TS.length tc] 131)) (f i).1 (ls[i].toks.map tkOf) /\ (∀ j, (f i).1.ownBlock = some j -> w.heap.size < j) := fun i h hi => by
    obtain ⟨a1, a2, a3⟩ := hf.2.1 i h hi
    refine ⟨a1, ?_, a3⟩
    have hne : (f i).1.ownBlock ≠ some w.heap.size := fun e => by have := a3 _ e; omega
    exact (a2.fr (B := wr.heap.size) hne (Fr.of (gset wr w.heap.size (k * 2 + 1) _) (Nat.le_refl _)) (Nat.le_refl _)).below (qE _ _) (Nat.le_refl _)
   have h4 : ∀ i, k + 1 <= i -> f i = (.slice none 0 0, 0) := fun i hi => hf.2.2 i (by omega)
   generalize (wr.setCell ⟨w.heap.size, k * 2 + 1, none⟩ (.int .i64 P)).alloc (.cells #[.int .i64 P, .slice td TS.length tc] 131) = W1 at *
   have H1 := Lib.hid h1
   have H2 := Lib.hid h2
   have H3 := Lib.hid h3
   have H4 := Lib.hid h4
   have HQ := Lib.hid q2
   clear h1 h2 h3 h4 q2 hf HR HB q0 q1 hx1 hfz hgl hb2 hz
   go_loopw [27] (fun i wr => ∃ (m : Nat) (tv : Value), m <= TS.length /\ i = .int .i64 m /\ Hid (wr.ownsRow W1.heap.size 180 4 tv m (ptCs (TS.take m))) /\ Hid (RowL wr w.heap.size ls.length fun i => if i = k then (tv, P) else f i) /\ Hid (Fr w.heap.size W1.heap.size W1 wr)) (fun i _ => TS.length - (intOf i).toNat)
   case atStart => exact ⟨0, .slice none 0 0, Nat.zero_le _, rfl, Lib.hid (by simpa [ptCs] using World.ownsRow_nil W1 _ _ _), H1, Fr.refl _ _ _⟩
   case round =>
    obtain ⟨m, tv, hm2, rfl, HO, HR, HF⟩ := hrel
    by_cases hlt2 : m < TS.length
    ·have hk2 : (m : Int) < TS.length := by omega
     obtain ⟨td', tc', e', _, hc'⟩ := id HQ.out
     injection e' with e1 _ e3
     subst e1 e3
     obtain ⟨b2, o2, rfl, hbl2, hcell⟩ := hc' (by omega)
     obtain ⟨t0, t1, t2⟩ := hcell m hlt2
     have hbk : wr.heap[b2]? = w.heap[b2]? := (HF.out.block b2 (Nat.lt_of_lt_of_le hbl2 H2.out.size) (by omega)).trans (H2.out.block b2 hbl2)
     have hcw : ∀ j, wr.cell? ⟨b2, j, none⟩ = w.cell? ⟨b2, j, none⟩ := fun j => by simp only [World.cell?, hbk]
     rw [<- hcw] at t0 t1 t2
     have hzw : w.heap.size <= wr.heap.size := Nat.le_trans H2.out.size HF.out.size
     have hb3 : b2 < wr.heap.size := by omega
     have hgl := HR.out.lt
     obtain ⟨la, lc, rfl⟩ := qG HO.out
     have x0 : wr.cell? ⟨w.heap.size, k * 2, none⟩ = some (.slice la m lc) := by
      have := HR.out.cell0 hlt
      simpa using this
     have HT : Hid (ptCs (TS.take (m + 1)) = ptCs (TS.take m) ++ [.int .i64 TS[m].kind, .int .i64 TS[m].n, .string ⟨TS[m].text.toArray⟩, .pointer none]) := by
      unfold Hid
      rw [List.take_succ_eq_append_getElem hlt2, ptCs_app]
     have hrow : (((wr.alloc (.cells #[.int .i64 TS[m].kind, .int .i64 TS[m].n, .string ⟨TS[m].text.toArray⟩] 171)).alloc (.cells #[.int .i64 TS[m].kind, .int .i64 TS[m].n, .string ⟨TS[m].text.toArray⟩, .pointer none] 180)).drew).ownsRow W1.heap.size 180 4 (.slice la m lc) m (ptCs (TS.take m)) := (HO.out.alloc _).alloc _
     obtain ⟨v', w', happ, hr', hgr⟩ := app1 143 180 _ 4 40 Tryz.underlying143 qKd rfl (by decide) (by decide) hrow (by have := HF.out.size; go_size) [.int .i64 TS[m].kind, .int .i64 TS[m].n, .string ⟨TS[m].text.toArray⟩, .pointer none] rfl (wr.heap.size + 1) (qH _ _ (by simp)) (by intro u hu; simp at hu; rcases hu with rfl | rfl | rfl | rfl <;> rfl) (by omega)
     obtain ⟨la', lc', rfl⟩ := qG hr'
     have hbk2 : w'.heap[w.heap.size]? = wr.heap[w.heap.size]? := by
      obtain ⟨cs, a1, _⟩ := HR.out
      have a2 : (((wr.alloc (.cells #[.int .i64 TS[m].kind, .int .i64 TS[m].n, .string ⟨TS[m].text.toArray⟩] 171)).alloc (.cells #[.int .i64 TS[m].kind, .int .i64 TS[m].n, .string ⟨TS[m].text.toArray⟩, .pointer none] 180)).drew).heap[w.heap.size]? = wr.heap[w.heap.size]? := by
       show (World.alloc _ _).heap[w.heap.size]? = _
       rw [old2 _ _ (by go_size), old2 _ _ hgl]
      rw [hgr.block _ (by go_size) (qAY hrow (a2.trans a1) (by decide))]
      exact a2
     have hRL := HR.out.keep hbk2
     have d0 : w'.cell? ⟨w.heap.size, k * 2, none⟩ = some (.slice la m lc) := by simpa using hRL.cell0 hlt
     have d1 : w'.frozen? ⟨w.heap.size, k * 2, none⟩ = false := hRL.froz _
     have hgl' := hRL.lt
     have HR2 : Hid (RowL (w'.setCell ⟨w.heap.size, k * 2, none⟩ (.slice la' (m + 1) lc')) w.heap.size ls.length fun i => if i = k then (.slice la' (m + 1) lc', P) else f i) := by
      obtain ⟨cs, a1, a2, a3⟩ := hRL.set0 hlt (.slice la' (m + 1) lc')
      refine ⟨cs, a1, a2, fun i hi => ?_⟩
      have := a3 i hi
      by_cases e : i = k
      ·subst e
       simpa using this
      ·simp only [if_neg e] at this ⊢
       exact this
     have HO2 : Hid ((w'.setCell ⟨w.heap.size, k * 2, none⟩ (.slice la' (m + 1) lc')).ownsRow W1.heap.size 180 4 (.slice la' (m + 1) lc') (m + 1) (ptCs (TS.take (m + 1)))) := by
      unfold Hid
      rw [HT.out]
      exact qAr hr' H1.out.lt
     have HF2 : Hid (Fr w.heap.size W1.heap.size W1 (w'.setCell ⟨w.heap.size, k * 2, none⟩ (.slice la' (m + 1) lc'))) := by
      have hs : W1.heap.size <= wr.heap.size := HF.out.size
      refine HF.out.trans (Fr.trans (b := w') ?_ (Fr.of (gset _ _ _ _) (Nat.le_trans hs (Nat.le_trans (by go_size) hgr.size))))
      refine Fr.trans (Fr.below ?_) (Fr.grown hgr (by go_size) fun q hq => .inr (hrow.lt q hq).1)
      refine Below.drew ?_
      exact ((Below.refl _ _).alloc hs _).alloc (by go_size) _
     clear hrow hr' hgr hRL hbk2 HO HR HF HT
     go_wp2_with fail
     go_region_law (refine qCJ rfl _ _ _ _ rfl _ _ rfl rfl happ ?_)
     all_goals
      go_wp2
      exact ⟨⟨m + 1, .slice la' (m + 1) lc', by omega, by go_num, HO2, HR2, HF2⟩, by simp [intOf]; omega⟩
    ·obtain rfl : m = TS.length := by omega
     have hk2 : ¬ ((TS.length : Nat) : Int) < TS.length := by omega
     go_wp2
     refine ⟨⟨k + 1, by omega, by go_num, ⟨_, HR.out, fun i h hi => ?_, fun i hi => ?_⟩, ?_⟩, by simp [intOf]; omega⟩
     ·by_cases e : i = k
      ·subst e
       rw [if_pos rfl]
       refine ⟨hP.symm, ?_, fun j hj => ?_⟩
       ·have := HO.out
        rw [List.take_length] at this
        rw [hTS]
        exact qLT this
       ·have := (HO.out.lt j hj).1
        have := H2.out.size
        have := H1.out.lt
        omega
      ·simp only [if_neg e]
       obtain ⟨a1, a2, a3⟩ := H3.out i h (by omega)
       exact ⟨a1, a2.fr (fun e => by have := a3 _ e; omega) HF.out (Nat.le_refl _), a3⟩
     ·simp only [if_neg (show ¬ i = k by omega)]
      exact H4.out i hi
     ·exact ⟨HF.out.os.trans H2.out.os, HF.out.tape.trans H2.out.tape, HF.out.output.trans H2.out.output, Nat.le_trans H2.out.size HF.out.size, fun i hi => (HF.out.block i (Nat.lt_of_lt_of_le hi H2.out.size) (by omega)).trans (H2.out.block i hi)⟩
  ·have e0 : k = ls.length := by omega
   have hk' : ¬ (k : Int) < ls.length := by omega
   go_wp2
   go_ret
   subst e0
   exact ⟨rfl, HR.out, HB.out⟩
def LRd (W : World) (v : Value) (ls : List (Int × List Tk)) : Prop :=
 ∃ ad cap, v = .slice ad ls.length cap /\ ls.length <= maxLen /\ (0 < ls.length -> ∃ b o, ad = some ⟨b, o, none⟩ /\ b < W.heap.size /\ ∀ i (h : i < ls.length), ∃ td tn tc, W.cell? ⟨b, o + i * 2, none⟩ = some (.slice td tn tc) /\ W.cell? ⟨b, o + i * 2 + 1, none⟩ = some (.int .i64 ls[i].1) /\ qI W (.slice td tn tc) ls[i].2)
theorem LRd.below {w w' : World} {B : Nat} {v : Value} {ls : List (Int × List Tk)} (h : LRd w v ls) (hb : Below B w w') (hB : w.heap.size <= B) : LRd w' v ls := by
 obtain ⟨ad, cap, rfl, hm, h⟩ := h
 refine ⟨ad, cap, rfl, hm, fun h0 => ?_⟩
 obtain ⟨b, o, rfl, hlt, hcell⟩ := h h0
 refine ⟨b, o, rfl, Nat.lt_of_lt_of_le hlt hb.size, fun i hi => ?_⟩
 obtain ⟨td, tn, tc, h1, h2, h3⟩ := hcell i hi
 exact ⟨td, tn, tc, by rw [hb.cell (by show b < B; omega)]; exact h1, by rw [hb.cell (by show b < B; omega)]; exact h2, h3.below hb hB⟩
theorem qAj {w : World} {q i : Nat} {c : Array Value} {t : TypeId} {v : Value} (h : w.heap[q]? = some (.cells c t (0, 0))) (hv : c[i]? = some v) : (w.setCell ⟨q, i, none⟩ v).heap[q]? = some (.cells c t (0, 0)) := by
 rw [qJ h]
 obtain ⟨hi, e⟩ := Array.getElem?_eq_some_iff.1 hv
 have : c.setIfInBounds i v = c := by
  apply Array.ext (by simp)
  intro j h1 h2
  rw [Array.getElem_setIfInBounds (by simpa using h1)]
  split
  ·next hij => subst hij; exact e.symm
  ·rfl
 rw [this]
theorem qX {w : World} {B q i : Nat} {c : Array Value} {t : TypeId} {v : Value} (h : w.heap[q]? = some (.cells c t (0, 0))) (hv : c[i]? = some v) : Below B w (w.setCell ⟨q, i, none⟩ v) := by
 refine ⟨rfl, rfl, rfl, by simp, fun j hj => ?_⟩
 by_cases e : j = q
 ·subst e
  rw [qAj h hv, h]
 ·exact Below.heap_setCell _ _ _ _ e
def lnOf (l : Sc.Ln) : Int × List Tk := (l.pos, l.toks.map tkOf)
theorem qI.shape {w : World} {v : Value} {ts : List Tk} (h : qI w v ts) : ∃ ad len cap, v = .slice ad len cap := by
 obtain ⟨ad, cap, rfl, _⟩ := h
 exact ⟨_, _, _, rfl⟩
theorem qKJ : ∀ (ps : List (Value × Int)) (i : Nat) (h : i < ps.length), (lnC ps)[i * 2]? = some ps[i].1 /\ (lnC ps)[i * 2 + 1]? = some (.int .i64 ps[i].2)
 | [], i, h => by simp at h
 | p :: r, 0, h => by simp [lnC]
 | p :: r, i + 1, h => by
   have ih := qKJ r i (by simpa using h)
   have e : lnC (p :: r) = [p.1, .int .i64 p.2] ++ lnC r := by simp [lnC]
   rw [e, show (i + 1) * 2 = 2 + i * 2 by omega]
   simp only [List.getElem_cons_succ]
   refine ⟨?_, ?_⟩
   ·rw [List.getElem?_append_right (by simp)]; simpa using ih.1
   ·rw [List.getElem?_append_right (by simp; omega)]; simpa [show 2 + i * 2 + 1 - 2 = i * 2 + 1 by omega] using ih.2
theorem lrd_of {W : World} {base : Nat} {v : Value} {ps : List (Value × Int)} {ls : List (Int × List Tk)} (h : W.ownsRow base 145 2 v ps.length (lnC ps)) (hl : ls.length = ps.length) (hp : ∀ i (h : i < ps.length), ps[i].2 = (ls[i]'(by omega)).1 /\ qI W ps[i].1 (ls[i]'(by omega)).2) : LRd W v ls := by
 rcases id h.2 with ⟨hv, h0⟩ | ⟨g, cap, cur, rfl, hg, hgg, hle, hm, rest⟩
 ·refine ⟨none, 0, by rw [hv, hl, h0], by rw [hl, h0]; exact Nat.zero_le _, fun h => by omega⟩
 ·refine ⟨some ⟨g, 0, none⟩, cap, by rw [hl], by omega, fun _ => ⟨g, 0, rfl, qC hgg, fun i hi => ?_⟩⟩
  have hi' : i < ps.length := by omega
  obtain ⟨a, b⟩ := qKJ ps i hi'
  obtain ⟨e1, e2⟩ := hp i hi'
  obtain ⟨td, tn, tc, e3⟩ := e2.shape
  have hadd : ∀ j, (⟨g, 0, none⟩ : Addr).add j = ⟨g, 0 + j, none⟩ := fun j => by unfold Addr.add; split <;> simp_all
  have k0 := h.cells rfl _ _ a
  have k1 := h.cells rfl _ _ b
  rw [hadd] at k0 k1
  rw [e3] at k0 e2
  rw [e1] at k1
  exact ⟨td, tn, tc, k0, k1, e2⟩
theorem qKt (v : Value) (ls : List Sc.Ln) (w : World) (h : LIn w v ls) (hn : ls.length <= 200) (hts : ∀ l, l ∈ ls -> l.toks.length <= 100000) (hp : ∀ l, l ∈ ls -> qZ (qA0 (l.toks.map tkOf))) :
  Calls Tryz.prog 43 #[v] w fun r w' => (∃ lv, r = .returned (.tuple #[lv, .slice none 0 0, .agg #[.int .i64 0, .int .i64 0]]) /\ LRd w' lv (ls.map lnOf)) /\ Below w.heap.size w w' := by
 have hmm : ∀ w, (Instr.makeMap 132 none).run Tryz.prog w = .ok (.map (some w.heap.size)) (w.alloc (.map #[] 0)) := fun w => rfl
 obtain ⟨ad, cap, rfl, _⟩ := id h
 have HI := Lib.hid h
 have HP := Lib.hid hp
 have HTS := Lib.hid hts
 clear h hp hts
 go_enter Tryz.func43, Tryz.ntmps43
 go_wp2_with fail
 have hB0 : Below w.heap.size w (((w.alloc (.cells #[.int .i64 0, .int .i64 0] 36)).alloc (.map #[] 0)).alloc (.cells #[.slice none 0 0, .slice none 0 0, .map (some (w.heap.size + 1)), .int .i64 0] 134)) := by go_grown
 have hb1 : (((w.alloc (.cells #[.int .i64 0, .int .i64 0] 36)).alloc (.map #[] 0)).alloc (.cells #[.slice none 0 0, .slice none 0 0, .map (some (w.heap.size + 1)), .int .i64 0] 134)).heap[w.heap.size + 1 + 1]? = some (.cells #[.slice none 0 0, .slice none 0 0, .map (some (w.heap.size + 1)), .int .i64 0] 134 (0, 0)) := qH _ _ (by go_size)
 have hb2 : (((w.alloc (.cells #[.int .i64 0, .int .i64 0] 36)).alloc (.map #[] 0)).alloc (.cells #[.slice none 0 0, .slice none 0 0, .map (some (w.heap.size + 1)), .int .i64 0] 134)).heap[w.heap.size + 1]? = some (.map #[] 0) := by
  rw [old2 _ _ (by go_size)]
  exact qH _ _ (by go_size)
 have hb3 : (((w.alloc (.cells #[.int .i64 0, .int .i64 0] 36)).alloc (.map #[] 0)).alloc (.cells #[.slice none 0 0, .slice none 0 0, .map (some (w.heap.size + 1)), .int .i64 0] 134)).heap[w.heap.size]? = some (.cells #[.int .i64 0, .int .i64 0] 36 (0, 0)) := by
  rw [old2 _ _ (by go_size), old2 _ _ (by go_size)]
  exact qH _ _ (by go_size)
 have hz0 : (((w.alloc (.cells #[.int .i64 0, .int .i64 0] 36)).alloc (.map #[] 0)).alloc (.cells #[.slice none 0 0, .slice none 0 0, .map (some (w.heap.size + 1)), .int .i64 0] 134)).heap.size = w.heap.size + 3 := by simp
 generalize (((w.alloc (.cells #[.int .i64 0, .int .i64 0] 36)).alloc (.map #[] 0)).alloc (.cells #[.slice none 0 0, .slice none 0 0, .map (some (w.heap.size + 1)), .int .i64 0] 134)) = W0 at *
 have hI0 : LIn W0 (.slice ad ls.length cap) ls := by
  obtain ⟨ad', cap', e, hh⟩ := HI.out
  refine ⟨ad', cap', e, fun h0 => ?_⟩
  obtain ⟨b, o, rfl, hlt, hc⟩ := hh h0
  refine ⟨b, o, rfl, by omega, fun i hi => ?_⟩
  obtain ⟨tv, a1, a2, a3⟩ := hc i hi
  exact ⟨tv, by rw [hB0.cell (by exact hlt)]; exact a1, by rw [hB0.cell (by exact hlt)]; exact a2, a3.below hB0 (Nat.le_refl _)⟩
 refine (qDh _ ls W0 hI0 (by omega) HTS.out).mono ?_
 rintro e W1 ⟨rfl, ⟨f, hf⟩, hB1⟩
 have hz1 : W0.heap.size < W1.heap.size := hf.1.lt
 have hW1 : WR W1 W1.heap.size (w.heap.size + 1 + 1) (.slice none 0 0) (w.heap.size + 1) 0 [] := ⟨by rw [hB1.block _ (by omega)]; exact hb1, by simpa [lnC] using World.ownsRow_nil W1 _ _ _, by rw [hB1.block _ (by omega)]; exact hb2, by omega⟩
 have hlen : ((List.range ls.length).map f).length = ls.length := by simp
 have HD := Lib.hid (qLq (w.heap.size + 1 + 1) (w.heap.size + 1) (.slice none 0 0) 0 [] W0.heap.size 0 ls.length ((List.range ls.length).map f) (ls.map fun l => l.toks.map tkOf) 0 W1 W1.heap.size (Nat.le_refl _) hW1 (by omega) (by omega) (by simpa using hn) (by omega) (by rw [hlen]; omega) (by rw [hlen]; exact Nat.le_refl _) (by unfold maxLen; omega) (by simp)
  (fun W hF => by
   have hk := hF.block W0.heap.size (by omega) (by omega)
   refine ⟨Nat.lt_of_lt_of_le hz1 hF.size, fun i hi => ?_⟩
   have hi' : i < ls.length := by simpa using hi
   obtain ⟨a1, a2, a3⟩ := hf.2.1 i hi' hi'
   have hr := hf.1.keep hk
   have hcc := hr.cell0 hi'
   have hcd := hr.cell1 hi'
   have hpr := a2.fr (fun e => by have := a3 _ e; omega) hF (Nat.le_refl _)
   simp only [List.getElem_map, List.getElem_range, Nat.zero_add]
   exact ⟨hpr.shape, hcc, hcd, hpr⟩)
  (fun t ht => by
   obtain ⟨l, hl, rfl⟩ := List.mem_map.1 ht
   exact HP.out l hl))
 rw [hlen] at HD
 have HAft : Hid (∀ W2, (∃ lv', WR W2 W1.heap.size (w.heap.size + 1 + 1) lv' (w.heap.size + 1) (0 + ls.length) ([] ++ (List.range ls.length).map f)) -> Fr (w.heap.size + 1 + 1) W1.heap.size W1 W2 ->
   W2.heap[w.heap.size]? = some (.cells #[.int .i64 0, .int .i64 0] 36 (0, 0)) /\ Below w.heap.size w W2 /\ ∃ la lc, LRd W2 (.slice la ls.length lc) (ls.map lnOf) /\ W2.heap[w.heap.size + 1 + 1]? = some (.cells #[.slice la ls.length lc, .slice none 0 0, .map (some (w.heap.size + 1)), .int .i64 (0 + ls.length)] 134 (0, 0))) := fun W2 hw hF => by
  obtain ⟨lv', h2⟩ := hw
  refine ⟨?_, ?_, ?_⟩
  ·rw [hF.block _ (by omega) (by omega), hB1.block _ (by omega)]
   exact hb3
  ·have h01 : Below w.heap.size w W1 := hB0.trans (hB1.mono (by omega))
   exact ⟨hF.os.trans h01.os, hF.tape.trans h01.tape, hF.output.trans h01.output, Nat.le_trans h01.size hF.size, fun i hi => (hF.block i (by omega) (by omega)).trans (h01.block i hi)⟩
  ·have hsh := qG h2.row
   obtain ⟨la, lc, e⟩ := hsh
   have el : ([] ++ (List.range ls.length).map f).length = ls.length := by simp
   rw [el] at e
   subst e
   refine ⟨la, lc, ?_, h2.box⟩
   refine lrd_of h2.row (by simp) fun i hi => ?_
   have hi' : i < ls.length := by simpa using hi
   obtain ⟨a1, a2, a3⟩ := hf.2.1 i hi' hi'
   have hpr := a2.fr (fun e => by have := a3 _ e; omega) hF (Nat.le_refl _)
   simp only [List.nil_append, List.getElem_map, List.getElem_range, lnOf]
   exact ⟨a1, hpr⟩
 clear hf hB1 hW1 hb1 hb2 hb3 hI0 hB0 HTS HP HI hlen hz0 hz1
 go_wp2_with (go_at_call 68; refine HD.out.mono ?_; rintro e W2 ⟨rfl, hw2, hf2⟩; obtain ⟨x0, hB2, la, lc, hLR, hbx⟩ := HAft.out W2 hw2 hf2; obtain ⟨⟨u0, u1⟩, f0, f1⟩ := qo x0; have hz2 := qC hbx; have d0 : W2.cell? ⟨w.heap.size + 1 + 1, 0, none⟩ = some (.slice la ls.length lc) := qB hbx rfl; have d1 : W2.cell? ⟨w.heap.size + 1 + 1, 1, none⟩ = some (.slice none 0 0) := qB hbx rfl; have HLR := Lib.hid hLR; have HB2 := Lib.hid hB2; have X0 := Lib.hid x0; clear hLR hbx hw2 hf2 hB2 x0)
 have hzr : w.heap.size < W2.heap.size := by omega
 go_region
 all_goals
  go_wp2
  refine bodyPost_ret (v := .tuple #[.slice la ls.length lc, .slice none 0 0, .agg #[.int .i64 0, .int .i64 0]]) (by simp [results, Tryz.results43, go_sem, World.cell?_alloc_lt, hzr, u0, u1]) rfl ⟨⟨_, rfl, ?_⟩, ?_⟩
  ·exact HLR.out.below (((qX X0.out rfl).trans (qX (qAj X0.out rfl) rfl)).alloc (by simp) _).drew (Nat.le_refl _)
  ·exact (((HB2.out.setCell (Nat.le_refl _) _).setCell (Nat.le_refl _) _).alloc (by simp; omega) _).drew
def regU (k : Int) (t : List UInt8) : Int := if k = 1 then (((List.range 16).find? fun j : Nat => decide (t = 114 :: Lib.itoa (j : Int))).elim (-1) fun j => (j : Int)) else -1
theorem qFO {w w1 : World} {B : Nat} {k n : Int} {t : ByteArray} {r : Nat} (h : w.heap[r]? = some (.cells #[.int .i64 k, .int .i64 n, .string t] 171 (0, 0))) (hb : Below B w w1) (hr : r < B) : w1.heap[r]? = some (.cells #[.int .i64 k, .int .i64 n, .string t] 171 (0, 0)) := by
 rw [hb.block r hr]; exact h
theorem regU_no {t : List UInt8} (h : ∀ j : Nat, j < 16 -> t ≠ 114 :: Lib.itoa j) : regU 1 t = -1 := by
 unfold regU
 rw [if_pos rfl, List.find?_eq_none.2 (by intro j hj; simpa using h j (by simpa using hj))]
 rfl
theorem regU_yes {t : List UInt8} {m : Nat} (hm : m < 16) (h : ∀ j : Nat, j < m -> t ≠ 114 :: Lib.itoa j) (he : t = 114 :: Lib.itoa m) : regU 1 t = m := by
 unfold regU
 rw [if_pos rfl]
 have : (List.range 16).find? (fun j : Nat => decide (t = 114 :: Lib.itoa (j : Int))) = some m := by
  rw [List.find?_eq_some_iff_getElem]
  exact ⟨by simpa using he, m, by simpa using hm, by simp, fun j hj => by simpa using h j hj⟩
 rw [this]
 rfl
theorem reg_eq (t : ByteArray) (l : List UInt8) : (t.toList == (⟨#[114]⟩ ++ (⟨l.toArray⟩ : ByteArray)).toList) = decide (t.data.toList = 114 :: l) := by
 have e1 : t.toList = t.data.toList := ByteArray.toList_eq t
 have e2 : (⟨#[114]⟩ ++ (⟨l.toArray⟩ : ByteArray)).toList = 114 :: l := by rw [ByteArray.toList_eq, ByteArray.data_append]; simp
 rw [e1, e2]
 exact Bool.eq_iff_iff.2 (by simp)
theorem qCz (n : Int) (t : ByteArray) (w : World) (hG : Sc.Glob w) : Calls Tryz.prog 156 #[tokV 1 n t] w fun r w' => r = .returned (.int .i64 (regU 1 t.data.toList)) /\ Below w.heap.size w w' := by
 have HA := Lib.hid fun W => qDD 1 n t W
 have hk1 : ((1 : Int) == 1) = true := rfl
 rw [hk1] at HA
 unfold tokV at *
 have HG := Lib.hid hG
 clear hG
 have H0 := Lib.hid (qK w #[.int .i64 1, .int .i64 n, .string t] 171)
 go_enter Tryz.func156, Tryz.ntmps156
 go_wp2_with fail
 go_loopw [4] (fun i wr => ∃ m : Nat, m <= 16 /\ i = .int .i64 m /\ Hid (wr.heap[w.heap.size]? = some (.cells #[.int .i64 1, .int .i64 n, .string t] 171 (0, 0))) /\ Hid (Below w.heap.size w wr) /\ Hid (∀ j : Nat, j < m -> t.data.toList ≠ 114 :: Lib.itoa j)) (fun i _ => 16 - (intOf i).toNat)
 case atStart => exact ⟨0, Nat.zero_le _, rfl, H0, qE _ _, fun j hj => by omega⟩
 case round =>
  obtain ⟨m, hm, rfl, HX, HB, HN⟩ := hrel
  clear H0
  by_cases hlt : m < 16
  ·have hm' : (m : Int) < 16 := by omega
   have x0 : wr.cell? ⟨w.heap.size, 0, none⟩ = some (.int .i64 1) := qB HX.out rfl
   have x1 : wr.cell? ⟨w.heap.size, 1, none⟩ = some (.int .i64 n) := qB HX.out rfl
   have x2 : wr.cell? ⟨w.heap.size, 2, none⟩ = some (.string t) := qB HX.out rfl
   have hz := qC HX.out
   have HI : Hid (∀ W, Below w.heap.size w W -> Calls Tryz.prog 5 #[.int .i64 m] W fun e w' => e = .returned (.string ⟨(Lib.itoa m).toArray⟩) /\ Below W.heap.size W w') := fun W hb => Sc.itoa_any m (by omega) (by omega) W (HG.out.below hb HG.out.sz)
   have hrq : ∀ b : Bool, decide (t.data.toList = 114 :: Lib.itoa m) = b -> (t.toList == (⟨#[114]⟩ ++ (⟨(Lib.itoa m).toArray⟩ : ByteArray)).toList) = b := fun b h => by rw [reg_eq]; exact h
   have hrs : (⟨(Lib.itoa m).toArray⟩ : ByteArray).size <= 21 := by
    have := Lib.itoa_length_le m (by omega) (by omega)
    simpa [ByteArray.size] using this
   generalize (⟨(Lib.itoa m).toArray⟩ : ByteArray) = rs at *
   by_cases he : t.data.toList = 114 :: Lib.itoa m
   ·have HE : Hid (regU 1 t.data.toList = m) := regU_yes hlt (fun j hj => HN.out j hj) he
    have hq := hrq true (by simpa using he)
    clear HN he hrq
    go_wp2_with fail
    go_region_with (first
     | (go_at_call 91; refine (HA.out _).mono ?_; rintro e w1 ⟨rfl, hb1⟩; have hb2 : Below wr.heap.size wr w1 := (Below.refl _ _).drew.trans hb1; have HX1 := Lib.hid (qFO HX.out hb2 hz); have y2 : w1.cell? ⟨w.heap.size, 2, none⟩ = some (.string t) := qB HX1.out rfl; have hz1 := qC HX1.out; have HB1 : Hid (Below w.heap.size w w1) := HB.out.trans (hb2.mono (by omega)); clear hb1 hb2)
     | (go_at_call 5; refine (HI.out _ HB1.out).mono ?_; rintro e w2 ⟨rfl, hb3⟩; have HX2 := Lib.hid (qFO HX1.out hb3 hz1); have z2 : w2.cell? ⟨w.heap.size, 2, none⟩ = some (.string t) := qB HX2.out rfl; have HB2 : Hid (Below w.heap.size w w2) := HB1.out.trans (hb3.mono (by omega)); clear hb3))
    all_goals go_wp2
    all_goals go_ret
    all_goals rw [HE.out]
    all_goals exact ⟨rfl, HB2.out⟩
   ·have HN2 : Hid (∀ j : Nat, j < m + 1 -> t.data.toList ≠ 114 :: Lib.itoa j) := fun j hj => by
     by_cases e : j = m
     ·subst e; exact he
     ·exact HN.out j (by omega)
    have hq := hrq false (by simpa using he)
    clear HN he hrq
    go_wp2_with fail
    first | (go_region_with (first
     | (go_at_call 91; refine (HA.out _).mono ?_; rintro e w1 ⟨rfl, hb1⟩; have hb2 : Below wr.heap.size wr w1 := (Below.refl _ _).drew.trans hb1; have HX1 := Lib.hid (qFO HX.out hb2 hz); have y2 : w1.cell? ⟨w.heap.size, 2, none⟩ = some (.string t) := qB HX1.out rfl; have hz1 := qC HX1.out; have HB1 : Hid (Below w.heap.size w w1) := HB.out.trans (hb2.mono (by omega)); clear hb1 hb2)
     | (go_at_call 5; refine (HI.out _ HB1.out).mono ?_; rintro e w2 ⟨rfl, hb3⟩; have HX2 := Lib.hid (qFO HX1.out hb3 hz1); have z2 : w2.cell? ⟨w.heap.size, 2, none⟩ = some (.string t) := qB HX2.out rfl; have HB2 : Hid (Below w.heap.size w w2) := HB1.out.trans (hb3.mono (by omega)); clear hb3))) | fail
    all_goals go_wp2
    all_goals exact ⟨⟨m + 1, by omega, by go_num, HX2, HB2, HN2⟩, by simp [intOf]; omega⟩
  ·have hm' : ¬ (m : Int) < 16 := by omega
   have HX2 : Hid (regU 1 t.data.toList = -1) := regU_no fun j hj => HN.out j (by omega)
   go_wp2
   go_ret
   rw [HX2.out]
   exact ⟨rfl, HB.out⟩
end Go.Proofs.YtgjmbjahgcndnaaGreatDoor
