/- Macro: lines of texts of tokens alone. Macro: lines that stand for themselves. -/
import Derived.Test.YtjmjhbdlbmnllaaGreatDoorUaP
import Derived.Test.YtjmjhbdlbmnllaaGreatDoorPut25
import Derived.Handy
import Derived.Deep.RegionLaw
namespace Go.Proofs.YtjmjhbdlbmnllaaGreatDoor
open Go.RowKit

theorem wpList_app_eq {P : Program} {w : World} {ops : Array Oper} {rest : List Oper} {o : Oper} {a : Act} {Q : Exit → Act → World → Prop} (hgd : o.guard = none) (sl x : Operand) (t u : TypeId)
    (ho : o.op = .call { callee := .builtin .append, args := #[sl, x], argTypes := #[t, u] }) (v v2 : Value) (hs : a.eval sl = v) (hx : a.eval x = v2) {v' : Value} {w' : World}
    (hr : ∀ ty, (Builtin.append_ #[t, u] ty #[v, v2]).run P w = .ok v' w') (h : wpList P ops Q rest (a.put o.dst v') w') : wpList P ops Q (o :: rest) a w := by
  refine wpList_plain hgd fun K hK => ?_
  have hr := hr o.type
  unfold Oper.wp execOp
  simp only [ho, resolve, invoke, builtin, Sem.run_bind, Sem.run_pure, Result.andThen_ok, List.map_toArray, List.map_cons, List.map_nil, hs, hx, hr]
  exact hK _ _ h

/-- An append whose run is known, as a step of a region that draws. -/
theorem step_app1 {P : Program} {ops : Array Oper} {o : Oper} {a : Act} {w : World} {K : Act → World → Prop} {Q : Exit → Act → World → Prop} {E : Prop} (hgd : o.guard = none) (sl x : Operand) (t u : TypeId)
    (ho : o.op = .call { callee := .builtin .append, args := #[sl, x], argTypes := #[t, u] }) (v v2 : Value) (hs : a.eval sl = v) (hx : a.eval x = v2) {v' : Value} {w' : World}
    (hr : ∀ ty, (Builtin.append_ #[t, u] ty #[v, v2]).run P w = .ok v' w') (h : K (a.put o.dst v') w') : if Region.wanted o (yielded ops a.tmps) = true then Oper.wp P o a w K Q else E := by
  have hw : Region.wanted o (yielded ops a.tmps) = true := by simp [Region.wanted, hgd]
  rw [if_pos hw]
  have hr := hr o.type
  unfold Oper.wp execOp
  simp only [ho, resolve, invoke, builtin, Sem.run_bind, Sem.run_pure, Result.andThen_ok, List.map_toArray, List.map_cons, List.map_nil, hs, hx, hr]
  exact h

/-- One value, of so many cells, appended onto one's own row. -/
theorem app1 (t e : TypeId) (z : Value) (size bytes : Nat) (ht : Tryz.prog.underlying t = some (.slice e)) (hinfo : (Tryz.prog.info? e).map (fun i => (i.zero, i.size, i.bytes)) = some (some z, size, bytes)) (hzs : z.cells.size = size) (hsz : 0 < size) (hby : bytes ≤ 1000)
    {w : World} {base n : Nat} {v : Value} {xs : List Value} (ho : w.ownsRow base e size v n xs) (hb : base ≤ w.heap.size) (news : List Value) (hl : news.length = size) (g : Nat) (hg : w.heap[g]? = some (.cells news.toArray e (0, 0))) (h1 : ∀ u ∈ news, u.oneCell' = true) (hn : n ≤ 1000000) :
    ∃ v' w', (∀ ty, (Builtin.append_ #[t, t] ty #[v, .slice (some ⟨g, 0, none⟩) 1 1]).run Tryz.prog w = .ok v' w') ∧ w'.ownsRow base e size v' (n + 1) (xs ++ news) ∧ w.grownBy w' v.ownBlock := by
  obtain ⟨i, hi, hz0, hz1, hz2⟩ := info_parts hinfo
  have hb2 : (n + 1) * bytes ≤ 140737488355328 := Nat.le_trans (Nat.mul_le_mul (Nat.add_le_add_right hn 1) hby) (by decide)
  obtain ⟨v', w', hr, h2, h3, _⟩ := run_append_own (P := Tryz.prog) w base t 0 e i z size bytes ht hi hz0 hz1 hz2 hzs hsz v n xs ho ⟨g, 0, none⟩ 1 1 news (by omega) (fun j u hj => by
    have hadd : (⟨g, 0, none⟩ : Addr).add j = ⟨g, 0 + j, none⟩ := by unfold Addr.add; split <;> simp_all
    rw [hadd, Nat.zero_add]
    exact blk_cell hg (by simpa using hj)) h1 (by unfold maxLen; omega) hb2 hb
  exact ⟨v', w', fun ty => hr, h2, h3⟩

/-- Lines: each one's text and number. -/
def lnC (ps : List (Value × Int)) : List Value := ps.flatMap fun p => [p.1, .int .i64 p.2]
theorem infoLn : (Tryz.prog.info? 94).map (fun i => (i.zero, i.size, i.bytes)) = some (some (.agg #[.slice none 0 0, .int .i64 0]), 2, 32) := by kernel_rfl

/-- The work of package Macro: the lines that stand, and how many were looked at. -/
structure WR (w : World) (base gw : Nat) (lv : Value) (mb : Nat) (k : Int) (ps : List (Value × Int)) : Prop where
  box : w.heap[gw]? = some (.cells #[lv, .slice none 0 0, .map (some mb), .int .i64 k] 81 (0, 0))
  row : w.ownsRow base 94 2 lv ps.length (lnC ps)
  mp : w.heap[mb]? = some (.map #[] 0)
  lt : gw < base

theorem row_shape {w : World} {base n size : Nat} {e : TypeId} {v : Value} {xs : List Value} (h : w.ownsRow base e size v n xs) : ∃ la lc, v = .slice la n lc := by
  rcases h.2 with ⟨rfl, rfl, _⟩ | ⟨g, cap, cur, rfl, _⟩
  · exact ⟨none, 0, rfl⟩
  · exact ⟨_, _, rfl⟩
/-- A box of another type is no row's block. -/
theorem row_box {w : World} {base n size g : Nat} {e t : TypeId} {v : Value} {xs : List Value} {c : Array Value} {f : Nat × Nat} (h : w.ownsRow base e size v n xs) (hg : w.heap[g]? = some (.cells c t f)) (ht : t ≠ e) : some g ≠ v.ownBlock := by
  rcases h.2 with ⟨rfl, _⟩ | ⟨g', cap, cur, rfl, _, hgg, _⟩
  · simp [Value.ownBlock]
  · intro e0
    simp only [Value.ownBlock, Option.some.injEq] at e0
    subst e0
    rw [hg] at hgg
    injection hgg with hgg
    injection hgg with _ h2
    exact ht h2
theorem row_map {w : World} {base n size g : Nat} {e : TypeId} {v : Value} {xs : List Value} {c : Array MapEntry} {f : Nat} (h : w.ownsRow base e size v n xs) (hg : w.heap[g]? = some (.map c f)) : some g ≠ v.ownBlock := by
  rcases h.2 with ⟨rfl, _⟩ | ⟨g', cap, cur, rfl, _, hgg, _⟩
  · simp [Value.ownBlock]
  · intro e0
    simp only [Value.ownBlock, Option.some.injEq] at e0
    subst e0
    rw [hg] at hgg
    cases hgg

theorem row_set {w : World} {base n size M o : Nat} {e : TypeId} {v x : Value} {xs : List Value} (h : w.ownsRow base e size v n xs) (hM : M < base) : (w.setCell ⟨M, o, none⟩ x).ownsRow base e size v n xs :=
  h.kept (gset w M o x) (by
    cases hv : v.ownBlock with
    | none => exact .inl rfl
    | some k => exact .inr (fun e => by cases e; have := (h.lt _ hv).1; omega))

/-- Blocks below B but one are as they were. -/
structure Fr (g B : Nat) (w w' : World) : Prop where
  os : w'.os = w.os
  tape : w'.tape = w.tape
  output : w'.output = w.output
  size : w.heap.size ≤ w'.heap.size
  block : ∀ i, i < B → i ≠ g → w'.heap[i]? = w.heap[i]?
theorem Fr.refl (g B : Nat) (w : World) : Fr g B w w := ⟨rfl, rfl, rfl, Nat.le_refl _, fun _ _ _ => rfl⟩
theorem Fr.trans {g B : Nat} {a b c : World} (h : Fr g B a b) (k : Fr g B b c) : Fr g B a c := ⟨k.os.trans h.os, k.tape.trans h.tape, k.output.trans h.output, Nat.le_trans h.size k.size, fun i hi hg => (k.block i hi hg).trans (h.block i hi hg)⟩
theorem Fr.below {g B : Nat} {w w' : World} (h : Below B w w') : Fr g B w w' := ⟨h.os, h.tape, h.output, h.size, fun i hi _ => h.block i hi⟩
theorem Fr.grown {g B : Nat} {w w' : World} {r : Option Nat} (h : w.grownBy w' r) (hB : B ≤ w.heap.size) (hr : ∀ k, r = some k → k = g ∨ B ≤ k) : Fr g B w w' :=
  ⟨h.os, h.tape, h.output, h.size, fun i hi hg => h.block i (by omega) (fun e => by rcases hr i e.symm with h | h <;> omega)⟩

theorem Fr.of {g B : Nat} {w w' : World} (h : w.grownBy w' (some g)) (hB : B ≤ w.heap.size) : Fr g B w w' := Fr.grown h hB fun k e => .inl (by cases e; rfl)

/-- A line stands for itself. -/
theorem stand_any (gw mb : Nat) (lv : Value) (k : Int) (ps : List (Value × Int)) (ad : Option Addr) (len cap : Nat) (p : Int) (w : World) (B : Nat) (hB : B ≤ w.heap.size) (h : WR w B gw lv mb k ps) (hl : ps.length < 200) :
    Calls Tryz.prog 92 #[.pointer (some ⟨gw, 0, none⟩), .agg #[.slice ad len cap, .int .i64 p]] w fun r w' => r = .returned (.int .i64 0) ∧ (∃ lv', WR w' B gw lv' mb k (ps ++ [(.slice ad len cap, p)])) ∧ Fr gw B w w' ∧ (∀ i, i < w.heap.size → i ≠ gw → some i ≠ lv.ownBlock → w'.heap[i]? = w.heap[i]?) := by
  obtain ⟨la, lc, rfl⟩ := row_shape h.row
  have c0 : w.cell? ⟨gw, 0, none⟩ = some (.slice la ps.length lc) := blk_cell h.box rfl
  have hg := blk_lt h.box
  have hl' : ((ps.length : Int) == 200) = false := by simp; omega
  have hrow : (((w.alloc (.cells #[.slice ad len cap, .int .i64 p] 94)).alloc (.cells #[.slice ad len cap, .int .i64 p] 94)).drew).ownsRow B 94 2 (.slice la ps.length lc) ps.length (lnC ps) := (h.row.alloc _).alloc _
  obtain ⟨v', w', happ, hr', hgr⟩ := app1 58 94 _ 2 32 Tryz.underlying58 infoLn rfl (by decide) (by decide) hrow (by simp; omega) [.slice ad len cap, .int .i64 p] rfl (w.heap.size + 1) (new_at _ _ (by simp)) (by intro u hu; simp at hu; rcases hu with rfl | rfl <;> rfl) (by omega)
  have hbox : (((w.alloc (.cells #[.slice ad len cap, .int .i64 p] 94)).alloc (.cells #[.slice ad len cap, .int .i64 p] 94)).drew).heap[gw]? = some (.cells #[.slice la ps.length lc, .slice none 0 0, .map (some mb), .int .i64 k] 81 (0, 0)) := by
    show (World.alloc _ _).heap[gw]? = _
    rw [old2 _ _ (by simp; omega), old2 _ _ hg]
    exact h.box
  have hmp : (((w.alloc (.cells #[.slice ad len cap, .int .i64 p] 94)).alloc (.cells #[.slice ad len cap, .int .i64 p] 94)).drew).heap[mb]? = some (.map #[] 0) := by
    have hm := blk_lt h.mp
    show (World.alloc _ _).heap[mb]? = _
    rw [old2 _ _ (by simp; omega), old2 _ _ hm]
    exact h.mp
  obtain ⟨la', lc', rfl⟩ := row_shape hr'
  have hbox' := (hgr.block gw (blk_lt hbox) (row_box hrow hbox (by decide))).trans hbox
  have hmp' := (hgr.block mb (blk_lt hmp) (row_map hrow hmp)).trans hmp
  have HF : Hid (Fr gw B w w') := by
    refine Fr.trans (Fr.below (by go_grown)) (Fr.grown hgr (by go_size) ?_)
    intro q hq
    exact .inr (hrow.lt q hq).1
  have HO : Hid (∀ i, i < w.heap.size → i ≠ gw → some i ≠ (Value.slice la ps.length lc).ownBlock → w'.heap[i]? = w.heap[i]?) := fun i hi h1 h2 => by
    rw [hgr.block i (by go_size) h2]
    show (World.alloc _ _).heap[i]? = _
    rw [old2 _ _ (by go_size), old2 _ _ hi]
  have HW : Hid (WR (w'.setCell ⟨gw, 0, none⟩ (.slice la' (ps.length + 1) lc')) B gw (.slice la' (ps.length + 1) lc') mb k (ps ++ [(.slice ad len cap, p)])) := by
    refine ⟨blk_set hbox', ?_, ?_, h.lt⟩
    · have e : (ps ++ [(Value.slice ad len cap, p)]).length = ps.length + 1 := by simp
      have e2 : lnC (ps ++ [(Value.slice ad len cap, p)]) = lnC ps ++ [.slice ad len cap, .int .i64 p] := by simp [lnC]
      rw [e, e2]
      exact row_set hr' h.lt
    · rw [Below.heap_setCell _ _ _ _ (by intro e; subst e; rw [hbox'] at hmp'; cases hmp')]
      exact hmp'
  have d0 : w'.cell? ⟨gw, 0, none⟩ = some (.slice la ps.length lc) := blk_cell hbox' rfl
  have f0 : w'.frozen? ⟨gw, 0, none⟩ = false := blk_froz hbox'
  have hg' := blk_lt hbox'
  clear hrow hr' hgr hbox hmp hbox' hmp' h
  go_enter Tryz.func92, Tryz.ntmps92
  go_wp2_with fail
  go_region_law (refine step_app1 rfl _ _ _ _ rfl _ _ rfl rfl happ ?_)
  all_goals
    go_wp2
    go_ret
    exact ⟨rfl, ⟨_, HW.out⟩, HF.out.trans (Fr.of (gset w' gw 0 _) (Nat.le_trans hB HF.out.size)), fun i hi h1 h2 => by rw [Below.heap_setCell _ _ _ _ h1]; exact HO.out i hi h1 h2⟩

theorem look_none (mb : Nat) (s : ByteArray) (w : World) (h : w.heap[mb]? = some (.map #[] 0)) : (Instr.lookup 79 (.map (some mb)) (.string s) true).run Tryz.prog w = .ok (.tuple #[.nilFunc, .bool false]) w := by
  have hz : (zeroValue 173).run Tryz.prog w = .ok .nilFunc w := by kernel_rfl
  have hu : (underlying 79).run Tryz.prog w = .ok (.map 9 173) w := by kernel_rfl
  have hg : (getObj mb).run Tryz.prog w = .ok (.map #[] 0) w := by simp [getObj, Sem.run, h]
  have hk : (Instr.checkKey (#[] : Array MapEntry).isEmpty 10000 9 (.string s)).run Tryz.prog w = .ok () w := by kernel_rfl
  have hf : (Instr.findKey 9 (.string s) (#[] : Array MapEntry).toList).run Tryz.prog w = .ok none w := by kernel_rfl
  unfold Instr.lookup
  simp only [Sem.run_bind, hu, hg, hk, hf, hz, Result.andThen_ok, Sem.run_pure]
  rfl

end Go.Proofs.YtjmjhbdlbmnllaaGreatDoor

namespace Go.Proofs.YtjmjhbdlbmnllaaGreatDoor
open Go.RowKit

/-- No line begins so that stands for itself. -/
def heads : List (List UInt8) := [[46, 109, 97, 99, 114, 111], [46, 114, 101, 112, 116], [46, 105, 102], [46, 101, 110, 100, 109], [46, 101, 110, 100, 114], [46, 101, 110, 100, 105, 102], [46, 101, 108, 115, 101], [46, 101, 113, 117]]
def PlainHead (s : ByteArray) : Prop := ∀ h, h ∈ heads → (s.toList == h) = false

theorem WR.go {w w' : World} {B gw : Nat} {lv : Value} {mb : Nat} {k : Int} {ps : List (Value × Int)} (h : WR w B gw lv mb k ps) (hb : Below w.heap.size w w') : WR w' B gw lv mb k ps :=
  ⟨by rw [hb.block _ (blk_lt h.box)]; exact h.box, Sc.owns_below h.row hb (Nat.le_refl _), by rw [hb.block _ (blk_lt h.mp)]; exact h.mp, h.lt⟩
/-- A block of another type is changed. -/
theorem WR.put {w : World} {B gw : Nat} {lv : Value} {mb : Nat} {k : Int} {ps : List (Value × Int)} (h : WR w B gw lv mb k ps) {q : Nat} {c : Array Value} {t : TypeId} {f : Nat × Nat} (hq : w.heap[q]? = some (.cells c t f)) (h1 : t ≠ 94) (h2 : t ≠ 81) (i : Nat) (x : Value) :
    WR (w.setCell ⟨q, i, none⟩ x) B gw lv mb k ps := by
  refine ⟨?_, h.row.kept (gset w q i x) ?_, ?_, h.lt⟩
  · rw [Below.heap_setCell _ _ _ _ (by intro e; subst e; rw [h.box] at hq; injection hq with hq; injection hq with _ h3; exact h2 h3.symm)]
    exact h.box
  · exact .inr (fun e => row_box h.row hq h1 e.symm)
  · rw [Below.heap_setCell _ _ _ _ (by intro e; subst e; rw [h.mp] at hq; cases hq)]
    exact h.mp

def Var2 (w : World) (R : Nat) (a b : Value) : Prop := (w.cell? ⟨R, 0, none⟩ = some a ∧ w.cell? ⟨R, 1, none⟩ = some b) ∧ w.frozen? ⟨R, 0, none⟩ = false ∧ w.frozen? ⟨R, 1, none⟩ = false
theorem var2_of {w : World} {R : Nat} {a b : Value} {t : TypeId} (h : w.heap[R]? = some (.cells #[a, b] t (0, 0))) : Var2 w R a b := by
  refine ⟨⟨?_, ?_⟩, ?_, ?_⟩ <;> simp [World.cell?, World.frozen?, h]

set_option maxHeartbeats 2000000 in
theorem step_any (gw mb : Nat) (lv : Value) (k : Int) (ps : List (Value × Int)) (b o n cap : Nat) (ad : Option Addr) (len lcap : Nat) (p d : Int) (ts : List Tk) (w : World) (B : Nat) (hB : B ≤ w.heap.size) (h : WR w B gw lv mb k ps) (hl : ps.length < 200)
    (c0 : w.cell? ⟨b, o, none⟩ = some (.slice ad len lcap)) (c1 : w.cell? ⟨b, o + 1, none⟩ = some (.int .i64 p)) (hb : b < w.heap.size) (ht : PReads w (.slice ad len lcap) ts) (hp : PlainHead (headS ts)) :
    Calls Tryz.prog 51 #[.pointer (some ⟨gw, 0, none⟩), .slice (some ⟨b, o, none⟩) (n + 1) cap, .int .i64 d] w fun r w' => r = .returned (.tuple #[.int .i64 1, .agg #[.int .i64 0, .int .i64 0]]) ∧ (∃ lv', WR w' B gw lv' mb k (ps ++ [(.slice ad len lcap, p)])) ∧ Fr gw B w w' ∧ (∀ i, i < w.heap.size → i ≠ gw → some i ≠ lv.ownBlock → w'.heap[i]? = w.heap[i]?) := by
  have HH := Lib.hid fun W (hb : Below w.heap.size w W) => head_any (.slice ad len lcap) ts W (ht.below hb (Nat.le_refl _))
  generalize headS ts = s at *
  have q0 := hp _ (List.mem_of_getElem? (show heads[0]? = _ from rfl))
  have q1 := hp _ (List.mem_of_getElem? (show heads[1]? = _ from rfl))
  have q2 := hp _ (List.mem_of_getElem? (show heads[2]? = _ from rfl))
  have q3 := hp _ (List.mem_of_getElem? (show heads[3]? = _ from rfl))
  have q4 := hp _ (List.mem_of_getElem? (show heads[4]? = _ from rfl))
  have q5 := hp _ (List.mem_of_getElem? (show heads[5]? = _ from rfl))
  have q6 := hp _ (List.mem_of_getElem? (show heads[6]? = _ from rfl))
  have q7 := hp _ (List.mem_of_getElem? (show heads[7]? = _ from rfl))
  have hW : ∀ W, Below w.heap.size w W → WR W B gw lv mb k ps := fun W hb => ⟨by rw [hb.block _ (blk_lt h.box)]; exact h.box, Sc.owns_below h.row hb (Nat.le_refl _), by rw [hb.block _ (blk_lt h.mp)]; exact h.mp, h.lt⟩
  have HS := Lib.hid fun W (hb : Below w.heap.size w W) => stand_any gw mb lv k ps ad len lcap p W B (Nat.le_trans hB hb.size) (hW W hb) hl
  have HW := Lib.hid hW
  clear hW h ht hp
  go_enter Tryz.func51, Tryz.ntmps51
  go_wp2_with fail
  refine (HH.out _ (by go_grown)).mono ?_
  rintro e w1 ⟨rfl, hb1⟩
  have HB1 : Hid (Below w.heap.size w w1) := by
    refine Below.trans ?_ (hb1.mono (by go_size))
    go_grown
  have x0 : w1.heap[w.heap.size]? = some (.cells #[.int .i64 0, .int .i64 0] 31 (0, 0)) := by
    rw [hb1.block _ (by go_size), old2 _ _ (by go_size)]
    exact new_at _ _ (by go_size)
  have x1 : w1.heap[w.heap.size + 1]? = some (.cells #[.slice ad len lcap, .int .i64 p] 94 (0, 0)) := by
    rw [hb1.block _ (by go_size)]
    exact new_at _ _ (by go_size)
  have y0 : w1.cell? ⟨w.heap.size + 1, 0, none⟩ = some (.slice ad len lcap) := blk_cell x1 rfl
  have y1 : w1.cell? ⟨w.heap.size + 1, 1, none⟩ = some (.int .i64 p) := blk_cell x1 rfl
  have hm := look_none mb s w1 (HW.out w1 HB1.out).mp
  have hg1 : w1.cell? ⟨gw, 2, none⟩ = some (.map (some mb)) := blk_cell (HW.out w1 HB1.out).box rfl
  have X0 := Lib.hid x0
  have X1 := Lib.hid x1
  have hz1 := blk_lt x1
  have HO : Hid (∀ i, w.heap.size ≤ i → i ≠ gw ∧ some i ≠ lv.ownBlock) := fun i hi => ⟨fun e => by have := blk_lt (HW.out w (Below.refl _ _)).box; omega, fun e => by have := ((HW.out w (Below.refl _ _)).row.lt i e.symm).2; omega⟩
  have HF := Lib.hid fun W => fault_any (.slice ad len lcap) p 0 W
  simp only [if_true] at HF
  clear hb1 x0 x1 HH
  go_wp2_with fail
  go_region_with (first
    | (go_at_call 92; refine (HS.out _ (HB1.out.drew)).mono ?_; rintro e w2 ⟨rfl, hw2, hf2, ho2⟩; have x2 : w2.heap[w.heap.size + 1]? = some (.cells #[.slice ad len lcap, .int .i64 p] 94 (0, 0)) := (ho2 _ hz1 (HO.out _ (by omega)).1 (HO.out _ (by omega)).2).trans X1.out; have z0 : w2.cell? ⟨w.heap.size + 1, 0, none⟩ = some (.slice ad len lcap) := blk_cell x2 rfl; have z1 : w2.cell? ⟨w.heap.size + 1, 1, none⟩ = some (.int .i64 p) := blk_cell x2 rfl; have X2 := Lib.hid ((ho2 _ (by show w.heap.size < w1.heap.size; omega) (HO.out _ (by omega)).1 (HO.out _ (by omega)).2).trans X0.out); have hz2 := blk_lt x2; have HW2 := Lib.hid hw2; have HF2 := Lib.hid hf2; have HO2 := Lib.hid ho2; clear x2 hw2 hf2 ho2)
    | (go_at_call 50; refine (HF.out _).mono ?_; rintro e w3 ⟨rfl, hb3⟩; obtain ⟨⟨u0, u1⟩, f0, f1⟩ := var2_of ((hb3.block _ (by show w.heap.size < w2.heap.size; omega)).trans X2.out); have HB3 := Lib.hid hb3; clear hb3))
  all_goals
    go_wp2
    refine bodyPost_ret (v := .tuple #[.int .i64 1, .agg #[.int .i64 0, .int .i64 0]]) (by simp [results, Tryz.results51, go_sem, u0, u1]) rfl ⟨rfl, ?_, ?_, ?_⟩
    · obtain ⟨lv', h2⟩ := HW2.out
      have x3 := (HB3.out.block _ (by show w.heap.size < w2.heap.size; omega)).trans X2.out
      exact ⟨lv', ((h2.go HB3.out).put x3 (by decide) (by decide) 0 _).put (blk_set x3) (by decide) (by decide) 1 _⟩
    · have h0 : B ≤ w2.heap.size := by omega
      exact ((Fr.below (HB1.out.drew.mono hB)).trans HF2.out).trans (Fr.below (((HB3.out.mono h0).setCell hB _).setCell hB _))
    · intro i hi h1 h2
      rw [Below.heap_setCell _ _ _ _ (by show i ≠ w.heap.size; omega), Below.heap_setCell _ _ _ _ (by show i ≠ w.heap.size; omega), HB3.out.block i (by omega), HO2.out i (by show i < w1.heap.size; omega) h1 h2]
      exact HB1.out.block i hi

theorem WR.look {w : World} {B gw : Nat} {lv : Value} {mb : Nat} {k : Int} {ps : List (Value × Int)} (h : WR w B gw lv mb k ps) (k' : Int) : WR (w.setCell ⟨gw, 3, none⟩ (.int .i64 k')) B gw lv mb k' ps :=
  ⟨blk_set h.box, row_set h.row h.lt, by rw [Below.heap_setCell _ _ _ _ (by intro e; subst e; have := h.box.symm.trans h.mp; cases this)]; exact h.mp, h.lt⟩

def lenV : Value → Nat
  | .slice _ n _ => n
  | _ => 0

set_option maxHeartbeats 2000000 in
theorem do_any (gw mb : Nat) (lv : Value) (k : Int) (ps : List (Value × Int)) (b o cap : Nat) (ls : List (Value × Int)) (ts : List (List Tk)) (d : Int) (w : World) (B : Nat) (hB : B ≤ w.heap.size) (h : WR w B gw lv mb k ps) (hd0 : 0 ≤ d) (hd : d ≤ 6)
    (hl : ps.length + ls.length ≤ 200) (hk0 : 0 ≤ k) (hk : k + ls.length ≤ 4000) (hcap : ls.length ≤ cap) (hmax : cap ≤ maxLen)
    (hts : ts.length = ls.length) (hL : ∀ W, Fr gw B w W → b < W.heap.size ∧ ∀ i (h : i < ls.length), (∃ ad len lcap, ls[i].1 = .slice ad len lcap) ∧ W.cell? ⟨b, o + i * 2, none⟩ = some ls[i].1 ∧ W.cell? ⟨b, o + i * 2 + 1, none⟩ = some (.int .i64 ls[i].2) ∧ PReads W ls[i].1 (ts[i]'(by omega)))
    (hp : ∀ t, t ∈ ts → PlainHead (headS t)) :
    Calls Tryz.prog 31 #[.pointer (some ⟨gw, 0, none⟩), .slice (some ⟨b, o, none⟩) ls.length cap, .int .i64 d] w fun r w' => r = .returned (.agg #[.int .i64 0, .int .i64 0]) ∧ (∃ lv', WR w' B gw lv' mb (k + ls.length) (ps ++ ls)) ∧ Fr gw B w w' := by
  have HL := Lib.hid hL
  have HP := Lib.hid hp
  have H0 := Lib.hid h
  have hg := blk_lt h.box
  clear hL hp h
  have hd' : ¬ (6 : Int) < d := by omega
  have HI : Hid (∃ lv', WR (w.alloc (.cells #[.int .i64 0, .int .i64 0] 31)) B gw lv' mb (k + (0 : Nat)) (ps ++ ls.take 0)) := ⟨lv, by simpa using H0.out.go (oalloc w _)⟩
  have HR : Hid ((w.alloc (.cells #[.int .i64 0, .int .i64 0] 31)).heap[w.heap.size]? = some (.cells #[.int .i64 0, .int .i64 0] 31 (0, 0))) := new_at _ _ rfl
  go_enter Tryz.func31, Tryz.ntmps31
  go_wp2_with fail
  go_loopw [1] (fun v wr => ∃ (j : Nat) (ad : Option Addr), j ≤ ls.length ∧ v = .slice ad (ls.length - j) (cap - j) ∧ Hid (j < ls.length → ad = some ⟨b, o + j * 2, none⟩) ∧ Hid (∃ lv', WR wr B gw lv' mb (k + j) (ps ++ ls.take j)) ∧ Hid (Fr gw B w wr) ∧ Hid (wr.heap[w.heap.size]? = some (.cells #[.int .i64 0, .int .i64 0] 31 (0, 0)))) (fun v _ => lenV v)
  case atStart => exact ⟨0, _, Nat.zero_le _, rfl, fun _ => by simp, HI, Fr.below ((oalloc w _).mono hB), HR⟩
  case round =>
    obtain ⟨j, ad, hj, rfl, HA, HW, HF, HX⟩ := hrel
    clear HI HR H0
    by_cases hlt : j < ls.length
    · obtain ⟨lv1, hw1⟩ := HW.out
      obtain ⟨hb0, hrow⟩ := HL.out wr HF.out
      obtain ⟨⟨ad1, len1, lcap1, e1⟩, r0, r1, r2⟩ := hrow j hlt
      rw [e1] at r0 r2
      have c3 : wr.cell? ⟨gw, 3, none⟩ = some (.int .i64 (k + j)) := blk_cell hw1.box rfl
      have f3 : wr.frozen? ⟨gw, 3, none⟩ = false := blk_froz hw1.box
      have hg1 := blk_lt hw1.box
      have e2 := HA.out hlt
      subst e2
      obtain ⟨n, en⟩ : ∃ n, ls.length - j = n + 1 := ⟨ls.length - j - 1, by omega⟩
      obtain ⟨c, ec⟩ : ∃ c, cap - j = c + 1 := ⟨cap - j - 1, by omega⟩
      have hc : c + 1 ≤ maxLen := by omega
      have hnc : n ≤ c := by omega
      rw [en, ec]
      have hkk : ¬ (4000 : Int) < k + j + 1 := by omega
      have hkk2 : k + (j : Int) + 1 ≤ 4000 := by omega
      have hW2 : WR (wr.setCell ⟨gw, 3, none⟩ (.int .i64 (k + j + 1))) B gw lv1 mb (k + j + 1) (ps ++ ls.take j) := hw1.look _
      have hF2 : Fr gw B w (wr.setCell ⟨gw, 3, none⟩ (.int .i64 (k + j + 1))) := HF.out.trans (Fr.of (gset _ _ _ _) (Nat.le_trans hB HF.out.size))
      obtain ⟨hb2, hrow2⟩ := HL.out _ hF2
      obtain ⟨_, s0, s1, s2⟩ := hrow2 j hlt
      rw [e1] at s0 s2
      have HS := Lib.hid (step_any gw mb lv1 (k + j + 1) (ps ++ ls.take j) b (o + j * 2) n (c + 1) ad1 len1 lcap1 ls[j].2 d (ts[j]'(by omega)) _ B (by simpa using Nat.le_trans hB HF.out.size) hW2 (by simp; omega) s0 s1 hb2 s2 (HP.out _ (List.getElem_mem _)))
      have HX2 : Hid ((wr.setCell ⟨gw, 3, none⟩ (.int .i64 (k + j + 1))).heap[w.heap.size]? = some (.cells #[.int .i64 0, .int .i64 0] 31 (0, 0))) := by
        unfold Hid
        rw [Below.heap_setCell _ _ _ _ (by show w.heap.size ≠ gw; omega)]
        exact HX.out
      have HRB : Hid (some w.heap.size ≠ lv1.ownBlock) := row_box hw1.row HX.out (by decide)
      have HF3 := Lib.hid hF2
      have HT : Hid (ls.take (j + 1) = ls.take j ++ [(.slice ad1 len1 lcap1, ls[j].2)]) := by
        unfold Hid
        rw [List.take_succ_eq_append_getElem hlt, ← e1]
      clear hw1 hrow r0 r1 r2 hW2 hF2 hrow2 s0 s1 s2 hb2 HW HF HX
      obtain ⟨ad', HA'⟩ : ∃ ad' : Option Addr, Hid ((if c = 0 then some (⟨b, o + j * 2, none⟩ : Addr) else some ⟨b, o + j * 2 + 2, none⟩) = ad') := ⟨_, Lib.hid rfl⟩
      go_wp2_with (go_at_call 51; refine HS.out.mono ?_; rintro e w2 ⟨rfl, hw2, hf2, ho2⟩; have HW2 := Lib.hid hw2; have HF2 := Lib.hid hf2; have HX3 := Lib.hid ((ho2 _ (by simpa using blk_lt HX2.out) (by omega) HRB.out).trans HX2.out); clear hw2 hf2 ho2)
      refine ⟨⟨j + 1, _, by omega, by rw [show ls.length - (j + 1) = n by omega, show cap - (j + 1) = c by omega], fun h => ?_, ?_, ?_, ?_⟩, by simp [lenV]⟩
      · rw [if_neg (by omega), show o + (j + 1) * 2 = o + j * 2 + 2 by omega]
      · obtain ⟨lv', h2⟩ := HW2.out
        refine ⟨lv', ?_⟩
        rw [HT.out, ← List.append_assoc, show k + ((j + 1 : Nat) : Int) = k + j + 1 by omega]
        exact h2.go (oalloc _ _)
      · exact (HF3.out.trans HF2.out).trans (Fr.below ((oalloc _ _).mono (Nat.le_trans hB (HF3.out.trans HF2.out).size)))
      · unfold Hid
        rw [old2 _ _ (blk_lt HX3.out)]
        exact HX3.out
    · obtain rfl : j = ls.length := by omega
      obtain ⟨⟨u0, u1⟩, f0, f1⟩ := var2_of HX.out
      have hz := blk_lt HX.out
      have e0 : ls.length - ls.length = 0 := by omega
      rw [e0]
      clear HA
      go_wp2
      refine bodyPost_ret (v := .agg #[.int .i64 0, .int .i64 0]) (by simp [results, Tryz.results31, go_sem, u0, u1]) rfl ⟨rfl, ?_, ?_⟩
      · obtain ⟨lv', h2⟩ := HW.out
        refine ⟨lv', ?_⟩
        rw [List.take_length] at h2
        exact (h2.put HX.out (by decide) (by decide) 0 _).put (blk_set HX.out) (by decide) (by decide) 1 _
      · exact HF.out.trans (Fr.below (((Below.refl _ _).setCell hB _).setCell hB _))

end Go.Proofs.YtjmjhbdlbmnllaaGreatDoor
