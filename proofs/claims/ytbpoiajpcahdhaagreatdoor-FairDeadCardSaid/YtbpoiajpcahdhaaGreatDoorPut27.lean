/- The contracts of the program's own number and name, that write onto bytes. The contract of the program's own Bytes of an object. -/
import Derived.Test.YtbpoiajpcahdhaaGreatDoorPut21
import Derived.Lib.AppendStr
import Derived.Lib.SlBytesConst
namespace Go.Proofs.YtbpoiajpcahdhaaGreatDoor.Li
open Go.RowKit

/-- Bytes that the call itself has made, from block base on. -/
def Out (w : World) (base : Nat) (v : Value) (l : List UInt8) : Prop := w.ownsRow base 5 1 v l.length (bcells l) ∧ base ≤ w.heap.size
theorem Out.lt {w : World} {base : Nat} {v : Value} {l : List UInt8} (h : Out w base v l) : ∀ k, v.ownBlock = some k → base ≤ k ∧ k < w.heap.size := h.1.lt
/-- A block of another type is not the row. -/
theorem Out.other {w : World} {base : Nat} {v : Value} {l : List UInt8} (h : Out w base v l) {b : Nat} {c : Array Value} {t : TypeId} {f : Nat × Nat} (hb : w.heap[b]? = some (.cells c t f)) (ht : t ≠ 5) : some b ≠ v.ownBlock := by
  rcases h.1.2 with ⟨rfl, _⟩ | ⟨g, cap, cur, rfl, _, hg, _⟩
  · simp [Value.ownBlock]
  · intro e
    simp only [Value.ownBlock, Option.some.injEq] at e
    subst e
    rw [hb] at hg
    injection hg with hg
    injection hg with _ h2
    exact ht h2
theorem Out.box {w w' : World} {base : Nat} {v : Value} {l : List UInt8} (h : Out w base v l) (hg : w.grownBy w' v.ownBlock) {b : Nat} {c : Array Value} {t : TypeId} {f : Nat × Nat} (hb : w.heap[b]? = some (.cells c t f)) (ht : t ≠ 5) : w'.heap[b]? = some (.cells c t f) := by
  rw [hg.block b (Array.getElem?_eq_some_iff.1 hb).1 (h.other hb ht)]
  exact hb
theorem Out.alloc {w : World} {base : Nat} {v : Value} {l : List UInt8} (h : Out w base v l) (o : Obj) : Out (w.alloc o) base v l := ⟨h.1.alloc o, by have := h.2; simp; omega⟩
theorem Out.below {w w' : World} {base B : Nat} {v : Value} {l : List UInt8} (h : Out w base v l) (hb : Below B w w') (hB : w.heap.size ≤ B) : Out w' base v l :=
  ⟨h.1.kept (ogbelow none hb hB) (by cases v.ownBlock <;> simp), Nat.le_trans h.2 hb.size⟩
theorem Out.grown {w0 w w' : World} {base B : Nat} {v : Value} {l : List UInt8} (h : Out w base v l) (hb : Below B w0 w) (hg : w.grownBy w' v.ownBlock) (hB : B ≤ base) : Below B w0 w' :=
  hb.grown hg (Nat.le_trans hB h.2) (fun j hj => Nat.le_trans hB (h.lt j hj).1)
/-- A number in so many bytes. -/
def putB (k : Nat) (n : Int) : List UInt8 := if k = 1 then [lowB n] else be4 n
theorem putB_len {k : Nat} (hk : k = 1 ∨ k = 4) (n : Int) : (putB k n).length = k := by rcases hk with rfl | rfl <;> rfl
theorem put_cells {k : Nat} (hk : k = 1 ∨ k = 4) (n : Int) {w : World} {g : Nat} (h : ∀ i, i < k → w.cell? ⟨g, i, none⟩ = some (.int .u8 (Oi.putAt (fun _ => 0) 0 k n i))) : ∀ j u, (bcells (putB k n))[j]? = some u → w.cell? ((⟨g, 0, none⟩ : Addr).add j) = some u := by
  intro j u hj
  rw [addr_add, Nat.zero_add]
  have e0 : ∀ m : Int, ((lowB m).toNat : Int) = m % 256 := lowB_nat
  rcases hk with rfl | rfl
  · match j, hj with
    | 0, hj =>
      rw [h 0 (by decide)]
      simp only [putB, if_true, bcells, List.map_cons, List.map_nil, List.getElem?_cons_zero, Option.some.injEq] at hj
      rw [← hj, e0]
      simp [Oi.putAt]
  · match j, hj with
    | 0, hj =>
      rw [h 0 (by decide)]
      simp only [putB, be4, bcells, List.map_cons, List.map_nil, List.getElem?_cons_zero, Option.some.injEq, show ¬ (4 = 1) by decide, if_false] at hj
      rw [← hj, e0]
      simp [Oi.putAt]
    | 1, hj =>
      rw [h 1 (by decide)]
      simp only [putB, be4, bcells, List.map_cons, List.map_nil, List.getElem?_cons_zero, List.getElem?_cons_succ, Option.some.injEq, show ¬ (4 = 1) by decide, if_false] at hj
      rw [← hj, e0]
      simp [Oi.putAt]
    | 2, hj =>
      rw [h 2 (by decide)]
      simp only [putB, be4, bcells, List.map_cons, List.map_nil, List.getElem?_cons_zero, List.getElem?_cons_succ, Option.some.injEq, show ¬ (4 = 1) by decide, if_false] at hj
      rw [← hj, e0]
      simp [Oi.putAt]
    | 3, hj =>
      rw [h 3 (by decide)]
      simp only [putB, be4, bcells, List.map_cons, List.map_nil, List.getElem?_cons_zero, List.getElem?_cons_succ, Option.some.injEq, show ¬ (4 = 1) by decide, if_false] at hj
      rw [← hj, e0]
      simp [Oi.putAt]
    | j + 4, hj => simp [putB, be4, bcells] at hj

theorem bcells_app (a b : List UInt8) : bcells (a ++ b) = bcells a ++ bcells b := by simp [bcells]

/-- Bytes appended onto one's own. -/
theorem app_bytes {w : World} {base : Nat} {v : Value} {l : List UInt8} (ho : Out w base v l) (a : Addr) (m c : Nat) (news : List UInt8) (hm : news.length = m) (hsrc : ∀ j u, (bcells news)[j]? = some u → w.cell? (a.add j) = some u) (hl : l.length + m ≤ 140737488355328) :
    ∃ v' w', (∀ ty, (Builtin.append_ #[36, 36] ty #[v, .slice (some a) m c]).run Tryz.prog w = .ok v' w') ∧ Out w' base v' (l ++ news) ∧ w.grownBy w' v.ownBlock := by
  obtain ⟨i, hi, hz0, hz1, hz2⟩ := info_parts infoB
  have key := fun ty => run_append_own (P := Tryz.prog) w base 36 ty 5 i _ 1 1 Tryz.underlying36 hi hz0 hz1 hz2 rfl (by decide) v l.length (bcells l) ho.1 a m c (bcells news) (by rw [bcells_len, hm]) hsrc (bcells_one news) (by unfold maxLen; omega) (by omega) ho.2
  obtain ⟨v', w', hr, h2, h3, _⟩ := key 0
  refine ⟨v', w', fun ty => ?_, ⟨?_, Nat.le_trans ho.2 h3.size⟩, h3⟩
  · obtain ⟨v2, w2, hr2, _⟩ := key ty
    have e : (Builtin.append_ #[36, 36] ty #[v, .slice (some a) m c]).run Tryz.prog w = (Builtin.append_ #[36, 36] 0 #[v, .slice (some a) m c]).run Tryz.prog w := rfl
    rw [e, hr]
  · rw [bcells_app, List.length_append, hm]
    exact h2
theorem app_string {w : World} {base : Nat} {v : Value} {l : List UInt8} (ho : Out w base v l) (s : List UInt8) (hl : l.length + s.length ≤ 140737488355328) :
    ∃ v' w', (∀ ty, (Builtin.append_ #[36, 9] ty #[v, .string ⟨s.toArray⟩]).run Tryz.prog w = .ok v' w') ∧ Out w' base v' (l ++ s) ∧ w.grownBy w' v.ownBlock := by
  obtain ⟨i, hi, hz0, hz1, hz2⟩ := info_parts infoB
  have hsz : (⟨s.toArray⟩ : ByteArray).size = s.length := by simp [ByteArray.size]
  obtain ⟨v', w', hr, h2, h3, _⟩ := Lib.run_append_own_string (P := Tryz.prog) w base 36 9 0 5 i Tryz.underlying36 Tryz.underlying9 hi hz0 hz1 hz2 v l.length (bcells l) ho.1 ⟨s.toArray⟩ (by rw [hsz]; unfold maxLen; omega) (by rw [hsz]; omega) ho.2
  refine ⟨v', w', fun ty => ?_, ⟨?_, Nat.le_trans ho.2 h3.size⟩, h3⟩
  · exact hr
  · rw [bcells_app, List.length_append, ← hsz]
    exact h2

/-- An append whose run is known. -/
theorem wpList_app_eq {P : Program} {w : World} {ops : Array Oper} {rest : List Oper} {o : Oper} {a : Act} {Q : Exit → Act → World → Prop} (hgd : o.guard = none) (sl x : Operand) (t u : TypeId)
    (ho : o.op = .call { callee := .builtin .append, args := #[sl, x], argTypes := #[t, u] }) (v v2 : Value) (hs : a.eval sl = v) (hx : a.eval x = v2) {v' : Value} {w' : World}
    (hr : ∀ ty, (Builtin.append_ #[t, u] ty #[v, v2]).run P w = .ok v' w') (h : wpList P ops Q rest (a.put o.dst v') w') : wpList P ops Q (o :: rest) a w := by
  refine wpList_plain hgd fun K hK => ?_
  have hr := hr o.type
  unfold Oper.wp execOp
  simp only [ho, resolve, invoke, builtin, Sem.run_bind, Sem.run_pure, Result.andThen_ok, List.map_toArray, List.map_cons, List.map_nil, hs, hx, hr]
  exact hK _ _ h

/-- A full row, whatever of it is frozen: what is appended makes a new row. -/
theorem app_full {w : World} {base g : Nat} {l : List UInt8} {cur : Array Value} {fz : Nat × Nat} (hg : w.heap[g]? = some (.cells cur 5 fz)) (hcur : cur.toList = bcells l) (hb : base ≤ w.heap.size) (a : Addr) (m c : Nat) (news : List UInt8) (hm : news.length = m) (h0 : 0 < m) (hsrc : ∀ j u, (bcells news)[j]? = some u → w.cell? (a.add j) = some u) (hl : l.length + m ≤ 140737488355328) :
    ∃ v' w', (∀ ty, (Builtin.append_ #[36, 36] ty #[.slice (some ⟨g, 0, none⟩) l.length l.length, .slice (some a) m c]).run Tryz.prog w = .ok v' w') ∧ Out w' base v' (l ++ news) ∧ w.grownBy w' none := by
  obtain ⟨i, hi, hz0, hz1, hz2⟩ := info_parts infoB
  have hcells : ∀ j u, (bcells l)[j]? = some u → w.drew.cell? ((⟨g, 0, none⟩ : Addr).add j) = some u := fun j u hj => by
    rw [addr_add, Nat.zero_add, World.cell?_drew]
    unfold World.cell?
    simp only [hg]
    rw [← hcur] at hj
    simpa using hj
  have hold := run_firstCells_some (P := Tryz.prog) w.drew i.size l.length ⟨g, 0, none⟩ l.length l.length (bcells l) (by rw [hz1, bcells_len]) hcells
  have hS : Src Tryz.prog i.size 36 (.slice (some a) m c) m (bcells news) w := Src.ofSlice w Tryz.underlying36 a m c (bcells news) (by rw [hz1, bcells_len, hm]) hsrc (bcells_one news)
  have hfit : Builtin.nextslicecap (l.length + m) l.length * i.bytes ≤ 281474976710656 := by rw [hz2]; exact growslice_fits (by omega) (by omega)
  have hr := fun ty => run_append_grow_src (P := Tryz.prog) w 36 36 ty 5 i _ Tryz.underlying36 hi hz0 (some ⟨g, 0, none⟩) l.length l.length (bcells l) hold (.slice (some a) m c) m (bcells news) hS (by omega) (by omega) hfit
  have hge := grownCap_ge w (l.length + m) l.length 5
  have hcm : grownCap w (l.length + m) l.length 5 ≤ maxLen := grownCap_le_maxLen w (l.length + m) l.length 5 (by unfold maxLen; omega)
  have hlen : (bcells l ++ bcells news).length = l.length + m := by rw [List.length_append, bcells_len, bcells_len, hm]; omega
  refine ⟨_, _, hr, ⟨⟨by rw [bcells_len], .inr ⟨w.heap.size, _, _, ?_, hb, heap_alloc_new w.drew _, ?_, hcm, ?_, ?_⟩⟩, by simp; omega⟩, ⟨rfl, rfl, rfl, by simp, fun k hk _ => Below.heap_alloc w.drew _ k (by simpa using hk)⟩⟩
  · rw [List.length_append, hm]
  · rw [List.length_append, hm]; exact hge
  · have hz : (Value.int IntKind.u8 0).cells.size = 1 := rfl
    simp only [Array.size_append, List.size_toArray, size_zeroCells, hz, hlen]
    omega
  · rw [List.length_append, hm, bcells_app]
    simp only [Array.toList_append]
    rw [← hlen, Nat.mul_one]
    exact List.take_left

/-- What can be appended onto. -/
def CanApp (w : World) (base : Nat) (v : Value) (l : List UInt8) (row : Option Nat) : Prop :=
  ∀ W, Below w.heap.size w W → ∀ (a : Addr) (m c : Nat) (news : List UInt8), news.length = m → 0 < m → (∀ j u, (bcells news)[j]? = some u → W.cell? (a.add j) = some u) → l.length + m ≤ 140737488355328 →
    ∃ v' w', (∀ ty, (Builtin.append_ #[36, 36] ty #[v, .slice (some a) m c]).run Tryz.prog W = .ok v' w') ∧ Out w' base v' (l ++ news) ∧ W.grownBy w' row
theorem Out.canApp {w : World} {base : Nat} {v : Value} {l : List UInt8} (h : Out w base v l) : CanApp w base v l v.ownBlock := fun _ hW a m c news hm _ hs hl => app_bytes (h.below hW (Nat.le_refl _)) a m c news hm hs hl
theorem full_canApp {w : World} {base g : Nat} {l : List UInt8} {cur : Array Value} {fz : Nat × Nat} (hg : w.heap[g]? = some (.cells cur 5 fz)) (hcur : cur.toList = bcells l) (hb : base ≤ w.heap.size) : CanApp w base (.slice (some ⟨g, 0, none⟩) l.length l.length) l none :=
  fun W hW a m c news hm h0 hs hl => app_full (by rw [hW.block g (Array.getElem?_eq_some_iff.1 hg).1]; exact hg) hcur (Nat.le_trans hb hW.size) a m c news hm h0 hs hl

set_option maxHeartbeats 2000000 in
theorem number_gen (v : Value) (l : List UInt8) (k : Nat) (hk : k = 1 ∨ k = 4) (n : Int) (w : World) (base : Nat) (row : Option Nat) (hca : CanApp w base v l row) (hl : l.length ≤ 1099511627776) :
    Calls Tryz.prog 64 #[v, .int .i64 (k : Int), .int .i64 n] w fun e w' => ∃ v', e = .returned v' ∧ Out w' base v' (l ++ putB k n) ∧ w.grownBy w' row := by
  have hmk := makeB k (by omega)
  simp only [Nat.mul_one] at hmk
  have hput := Oi.put_any (some ⟨w.heap.size, 0, none⟩) k k (fun _ => 0) 0 k n (w.alloc (.cells (madeCells #[.int .u8 0] k) 5)) (by omega) (fun _ => ⟨w.heap.size, 0, rfl, fun i hi => by
    have e := heap_alloc_new w (.cells (madeCells #[.int .u8 0] k) 5)
    unfold World.cell?
    simp only [e]
    simp [madeCells, hi, Nat.mod_one]⟩) (by omega) (by omega) (by omega) (by omega)
  have HAPP : Hid (∀ w2, Below (w.heap.size + 1) (w.alloc (.cells (madeCells #[.int .u8 0] k) 5)) w2 → (∀ i, i < k → w2.cell? ⟨w.heap.size + 1, i, none⟩ = some (.int .u8 (Oi.putAt (fun _ => 0) 0 k n i))) →
      ∃ v' w', (∀ ty, (Builtin.append_ #[36, 36] ty #[v, .slice (some ⟨w.heap.size + 1, 0, none⟩) k k]).run Tryz.prog w2 = .ok v' w') ∧ Hid (Out w' base v' (l ++ putB k n) ∧ w.grownBy w' row)) := fun w2 hb2 hc2 => by
    have hb2' : Below (w.alloc (.cells (madeCells #[.int .u8 0] k) 5)).heap.size (w.alloc (.cells (madeCells #[.int .u8 0] k) 5)) w2 := by simpa using hb2
    obtain ⟨v', w', h1, h2, h3⟩ := hca w2 ((oalloc w (.cells (madeCells #[.int .u8 0] k) 5)).trans (hb2.mono (Nat.le_succ _))) ⟨w.heap.size + 1, 0, none⟩ k k (putB k n) (putB_len hk n) (by omega) (put_cells hk n hc2) (by omega)
    exact ⟨v', w', h1, h2, ogtrans (ogtrans (World.grownBy_alloc _ _ _) (ogbelow _ hb2' (Nat.le_refl _))) h3⟩
  clear hca hl
  simp only [World.size_alloc] at hput
  clear hk
  go_enter Tryz.func64, Tryz.ntmps64
  go_wp2_with (first | (go_at_call 66; refine hput.mono ?_; rintro e w2 ⟨rfl, hb2, hz2, hc2⟩; obtain ⟨v', w3, happ, HO3⟩ := HAPP.out w2 hb2 hc2; have HA := Lib.hid happ; clear hb2 hz2 hc2 hmk happ) | (at_builtin; refine wpList_app_eq rfl _ _ _ _ rfl _ _ rfl rfl HA.out ?_))
  go_ret
  exact ⟨_, rfl, HO3.out.1, HO3.out.2⟩
theorem number_any (v : Value) (l : List UInt8) (k : Nat) (hk : k = 1 ∨ k = 4) (n : Int) (w : World) (base : Nat) (ho : Out w base v l) (hl : l.length ≤ 1099511627776) :
    Calls Tryz.prog 64 #[v, .int .i64 (k : Int), .int .i64 n] w fun e w' => ∃ v', e = .returned v' ∧ Out w' base v' (l ++ putB k n) ∧ w.grownBy w' v.ownBlock := number_gen v l k hk n w base _ ho.canApp hl

set_option maxHeartbeats 2000000 in
theorem nameW_any (v : Value) (l s : List UInt8) (w : World) (base : Nat) (ho : Out w base v l) (hl : l.length ≤ 1099511627775) (hs : s.length ≤ 1099511627776) :
    Calls Tryz.prog 65 #[v, .string ⟨s.toArray⟩] w fun e w' => ∃ v', e = .returned v' ∧ Out w' base v' (l ++ lowB s.length :: s) ∧ ∃ v1 w1, Out w1 base v1 (l ++ [lowB s.length]) ∧ w.grownBy w1 v.ownBlock ∧ w1.grownBy w' v1.ownBlock := by
  have hnum := number_any v l 1 (.inl rfl) s.length w base ho (by omega)
  have HAPP : Hid (∀ v1 w1, Out w1 base v1 (l ++ [lowB s.length]) → w.grownBy w1 v.ownBlock → ∃ v' w', (∀ ty, (Builtin.append_ #[36, 9] ty #[v1, .string ⟨s.toArray⟩]).run Tryz.prog w1 = .ok v' w') ∧ Hid (Out w' base v' (l ++ lowB s.length :: s) ∧ ∃ v1 w1, Out w1 base v1 (l ++ [lowB s.length]) ∧ w.grownBy w1 v.ownBlock ∧ w1.grownBy w' v1.ownBlock)) := fun v1 w1 ho1 hg1 => by
    obtain ⟨v', w', h1, h2, h3⟩ := app_string ho1 s (by simp; omega)
    exact ⟨v', w', h1, by simpa using h2, v1, w1, ho1, hg1, h3⟩
  have hsz : ((⟨s.toArray⟩ : ByteArray).size : Int) = s.length := by simp [ByteArray.size]
  clear ho
  go_enter Tryz.func65, Tryz.ntmps65
  go_wp2_with (first | (go_at_call 64; refine hnum.mono ?_; rintro e w1 ⟨v1, rfl, ho1, hg1⟩; obtain ⟨v', w3, happ, HO3⟩ := HAPP.out v1 w1 ho1 hg1; have HA := Lib.hid happ; clear ho1 hg1 happ) | (at_builtin; refine wpList_app_eq rfl _ _ _ _ rfl _ _ rfl rfl HA.out ?_))
  go_ret
  exact ⟨_, rfl, HO3.out.1, HO3.out.2⟩

end Go.Proofs.YtbpoiajpcahdhaaGreatDoor.Li

namespace Go.Proofs.YtbpoiajpcahdhaaGreatDoor.Li
open Go.RowKit

theorem number4 (v : Value) (l : List UInt8) (n : Int) (w : World) (base : Nat) (ho : Out w base v l) (hl : l.length ≤ 1099511627776) :
    Calls Tryz.prog 64 #[v, .int .i64 4, .int .i64 n] w fun e w' => ∃ v', e = .returned v' ∧ Out w' base v' (l ++ be4 n) ∧ w.grownBy w' v.ownBlock := number_any v l 4 (.inr rfl) n w base ho hl
theorem number1 (v : Value) (l : List UInt8) (n : Int) (w : World) (base : Nat) (ho : Out w base v l) (hl : l.length ≤ 1099511627776) :
    Calls Tryz.prog 64 #[v, .int .i64 1, .int .i64 n] w fun e w' => ∃ v', e = .returned v' ∧ Out w' base v' (l ++ [lowB n]) ∧ w.grownBy w' v.ownBlock := number_any v l 1 (.inl rfl) n w base ho hl

/-- Bytes that lie somewhere appended onto one's own. -/
theorem app_src {w : World} {base : Nat} {v : Value} {l : List UInt8} (ho : Out w base v l) (hl0 : 0 < l.length) (ad : Option Addr) (m c : Nat) (news : List UInt8) (hm : news.length = m) (hsrc : SrcOf w ad m (bcells news)) (hl : l.length + m ≤ 140737488355328) :
    ∃ v' w', (∀ ty, (Builtin.append_ #[36, 36] ty #[v, .slice ad m c]).run Tryz.prog w = .ok v' w') ∧ Out w' base v' (l ++ news) ∧ w.grownBy w' v.ownBlock := by
  cases ad with
  | some a =>
    refine app_bytes ho a m c news hm (fun j u hj => ?_) hl
    by_cases h0 : 0 < m
    · obtain ⟨b, o, e, _, hc⟩ := hsrc h0
      cases e
      rw [addr_add]
      exact hc j u hj
    · have : news = [] := List.eq_nil_of_length_eq_zero (by omega)
      rw [this] at hj
      simp [bcells] at hj
  | none =>
    have h0 : m = 0 := by
      by_cases h : 0 < m
      · obtain ⟨_, _, e, _⟩ := hsrc h
        cases e
      · omega
    subst h0
    have hn : news = [] := List.eq_nil_of_length_eq_zero (by omega)
    subst hn
    obtain ⟨i, hi, _, hz1, _⟩ := info_parts infoB
    rcases ho.1.2 with ⟨_, h⟩ | ⟨g, cap, cur, rfl, hb, hg, hnc, rest⟩
    · omega
    · refine ⟨_, w, fun ty => ?_, by simpa using ho, World.grownBy.refl w _⟩
      have := run_append_room_src (P := Tryz.prog) w 36 36 ty 5 i Tryz.underlying36 hi g 0 l.length cap (.slice none 0 c) 0 [] (Src.ofNil w Tryz.underlying36 c) (by omega) (by simp) (by simp)
      simpa [World.setCells] using this

/-- What is kept while the bytes are written. -/
structure BK (w0 w : World) (N : Nat) (cv sv rv v : Value) (l : List UInt8) : Prop where
  out : Out w (N + 1) v l
  bel : Below N w0 w
  box : w.heap[N]? = some (.cells #[cv, sv, rv] 94 (0, 0))
theorem BK.step {w0 w w' : World} {N : Nat} {cv sv rv v v' : Value} {l l' : List UInt8} (h : BK w0 w N cv sv rv v l) (ho : Out w' (N + 1) v' l') (hg : w.grownBy w' v.ownBlock) : BK w0 w' N cv sv rv v' l' :=
  ⟨ho, h.out.grown h.bel hg (Nat.le_succ _), h.out.box hg h.box (by decide)⟩
theorem BK.alloc {w0 w : World} {N : Nat} {cv sv rv v : Value} {l : List UInt8} (h : BK w0 w N cv sv rv v l) (o : Obj) : BK w0 (w.alloc o) N cv sv rv v l :=
  ⟨h.out.alloc o, h.bel.alloc (Nat.le_trans (Nat.le_succ _) h.out.2) _, by rw [Below.heap_alloc _ _ _ (Array.getElem?_eq_some_iff.1 h.box).1]; exact h.box⟩
theorem cell_of_block {w : World} {b i : Nat} {c : Array Value} {t : TypeId} {f : Nat × Nat} {v : Value} (h : w.heap[b]? = some (.cells c t f)) (hv : c[i]? = some v) : w.cell? ⟨b, i, none⟩ = some v := by
  unfold World.cell?
  simp only [h]
  exact hv
theorem BK.cells {w0 w : World} {N : Nat} {cv sv rv v : Value} {l : List UInt8} (h : BK w0 w N cv sv rv v l) : w.cell? ⟨N, 0, none⟩ = some cv ∧ w.cell? ⟨N, 1, none⟩ = some sv ∧ w.cell? ⟨N, 2, none⟩ = some rv :=
  ⟨cell_of_block h.box rfl, cell_of_block h.box rfl, cell_of_block h.box rfl⟩

theorem nameR_len {l : List UInt8} (h : nameR l = true) : l.length ≤ 10 := by
  cases l with
  | nil => simp
  | cons c r =>
    simp only [nameR, Bool.and_eq_true, decide_eq_true_eq] at h
    have := h.1.1
    simp only [List.length_cons]
    omega

theorem flat_take {α : Type} (f : α → List UInt8) (l : List α) (k : Nat) (hk : k < l.length) : (l.take (k + 1)).flatMap f = (l.take k).flatMap f ++ f l[k] := by
  rw [List.take_succ_eq_append_getElem hk, List.flatMap_append]
  simp

/-- The first number, behind the mark. -/
theorem number_mark (n : Int) (w : World) (g base : Nat) {fz : Nat × Nat} (hg : w.heap[g]? = some (.cells #[.int .u8 79, .int .u8 66, .int .u8 74] 5 fz)) (hb : base ≤ w.heap.size) :
    Calls Tryz.prog 64 #[.slice (some ⟨g, 0, none⟩) 3 3, .int .i64 4, .int .i64 n] w fun e w' => ∃ v', e = .returned v' ∧ Out w' base v' ([79, 66, 74] ++ be4 n) ∧ w.grownBy w' none :=
  number_gen (.slice (some ⟨g, 0, none⟩) 3 3) [79, 66, 74] 4 (.inr rfl) n w base none (full_canApp (l := [79, 66, 74]) hg rfl hb) (by decide)

/-- What the bytes are up to the syms, and up to the relocs. -/
def preS (o : Ob) : List UInt8 := [79, 66, 74] ++ (be4 o.code.length ++ (o.code ++ be4 o.syms.length))
def preR (o : Ob) : List UInt8 := preS o ++ (o.syms.flatMap symB ++ be4 o.rels.length)
theorem bytesO_pre (o : Ob) : bytesO o = preR o ++ o.rels.flatMap relB := by simp [bytesO, preR, preS]

set_option maxHeartbeats 8000000 in
theorem bytes_good (o : Ob) (cv sv rv : Value) (w : World) (hC : OBytes w cv o.code) (hS : OSyms w sv o.syms) (hR : ORels w rv o.rels) (hnl : ∀ s, s ∈ o.syms → s.name.length ≤ maxLen) (hw : wrongO nameR o = 0) :
    Calls Tryz.prog 57 #[obV cv sv rv] w fun e w' => ∃ v, e = .returned (.tuple #[v, .int .i64 0]) ∧ Below w.heap.size w w' ∧ Out w' (w.heap.size + 1) v (bytesO o) := by
  have hcall := fun W (h : Below w.heap.size w W) => wrong_any o cv sv rv W (hC.below h (Nat.le_refl _)) (hS.below h (Nat.le_refl _)) (hR.below h (Nat.le_refl _)) hnl
  rw [hw] at hcall
  have HC := Lib.hid hcall
  have hw2 := hw
  unfold wrongO at hw2
  split at hw2
  · cases hw2
  rename_i hmany
  split at hw2
  case isFalse h => exact absurd hw2 h
  rename_i hsy
  have KS := Lib.hid (symsErr_ok _ _ hsy)
  have KR := Lib.hid (relsErr_ok _ 0 (by decide) hw2)
  have hc8 : o.code.length ≤ 8000 := by omega
  have hs8 : o.syms.length ≤ 255 := by omega
  have hr8 : o.rels.length ≤ 16000 := by omega
  have HSRC := Lib.hid (OBytes.src hC)
  clear hcall hnl hw hw2 hsy hmany
  obtain ⟨cad, ccap, rfl, z0, z1⟩ := hC
  obtain ⟨sad, scap, rfl, z2, hsc⟩ := hS
  obtain ⟨rad, rcap, rfl, z4, hrc⟩ := hR
  have HSC := Lib.hid hsc
  have HRC := Lib.hid hrc
  have HSRC2 : Hid (SrcOf w cad o.code.length (bcells o.code)) := by
    obtain ⟨ad, cap, e, h⟩ := HSRC.out
    cases e
    exact h
  clear z0 z1 z2 z4 hsc hrc HSRC
  unfold obV at *
  go_enter Tryz.func57, Tryz.ntmps57
  go_wp2_with fail
  refine (HC.out _ (oalloc _ _)).mono ?_
  rintro e w1 ⟨rfl, hb1⟩
  have hz1 : w.heap.size < w1.heap.size := by have := hb1.size; simp at this; omega
  have HB1 : Hid (Below w.heap.size w w1 ∧ w1.heap[w.heap.size]? = some (.cells #[.slice cad o.code.length ccap, .slice sad o.syms.length scap, .slice rad o.rels.length rcap] 94 (0, 0))) := ⟨(oalloc w _).trans (hb1.mono (by simp)), by rw [hb1.block _ (by simp)]; exact heap_alloc_new w _⟩
  have q0 : w1.cell? ⟨w.heap.size, 0, none⟩ = some (.slice cad o.code.length ccap) := cell_of_block HB1.out.2 rfl
  clear hb1 HC
  have hcv := fun (w : World) (C : Array Value) (n c : Nat) => Lib.run_convert_bytes_const (P := Tryz.prog) w 36 5 C n c Tryz.underlying36 Tryz.underlying5
  go_wp2_with fail
  clear hcv
  refine (number_mark _ _ w1.heap.size (w.heap.size + 1) (heap_alloc_new w1 _) (by simp; omega)).mono ?_
  rintro e w2 ⟨v2, rfl, ho2, hg2⟩
  have HBK2 : Hid (BK w w2 w.heap.size (.slice cad o.code.length ccap) (.slice sad o.syms.length scap) (.slice rad o.rels.length rcap) v2 ([79, 66, 74] ++ be4 o.code.length)) :=
    ⟨ho2, (HB1.out.1.alloc (Nat.le_of_lt hz1) _).grown hg2 (by simp; omega) (fun j hj => by cases hj), by rw [hg2.block _ (by simp; omega) (by simp), Below.heap_alloc _ _ _ hz1]; exact HB1.out.2⟩
  obtain ⟨x0, x1, x2⟩ := HBK2.out.cells
  clear ho2 hg2 HB1 q0 hz1
  obtain ⟨v3, w3, happ, ho3, hg3⟩ := app_src HBK2.out.out (by simp) cad o.code.length ccap o.code rfl (HSRC2.out.below HBK2.out.bel (Nat.le_refl _)) (by simp [be4]; omega)
  have HA := Lib.hid happ
  have HBK3 := Lib.hid (HBK2.out.step ho3 hg3)
  obtain ⟨y0, y1, y2⟩ := HBK3.out.cells
  clear happ ho3 hg3 HBK2 HSRC2
  go_wp2_with (at_builtin; refine wpList_app_eq rfl _ _ _ _ rfl _ _ rfl rfl HA.out ?_)
  refine (number4 _ _ _ _ _ HBK3.out.out (by simp [be4]; omega)).mono ?_
  rintro e w4 ⟨v4, rfl, ho4, hg4⟩
  have HBK4 : Hid (BK w w4 w.heap.size (.slice cad o.code.length ccap) (.slice sad o.syms.length scap) (.slice rad o.rels.length rcap) v4 (preS o)) := by
    have := HBK3.out.step ho4 hg4
    unfold Hid
    simpa [preS] using this
  have HL4 : Hid ((preS o).length ≤ 8011) := by unfold Hid; simp [preS, be4]; omega
  obtain ⟨u0, u1, u2⟩ := HBK4.out.cells
  clear ho4 hg4 HBK3 HA x0 x1 x2 y0 y1 y2
  go_wp2
  go_loopw [5, 33] (fun v i wr => ∃ k : Nat, k ≤ o.syms.length ∧ i = .int .i64 k ∧ Hid (BK w wr w.heap.size (.slice cad o.code.length ccap) (.slice sad o.syms.length scap) (.slice rad o.rels.length rcap) v (preS o ++ (o.syms.take k).flatMap symB)) ∧ Hid ((preS o ++ (o.syms.take k).flatMap symB).length ≤ 8011 + k * 15)) (fun _ i _ => o.syms.length - (intOf i).toNat)
  case atStart => exact ⟨0, Nat.zero_le _, rfl, by simpa using HBK4, by simpa using HL4⟩
  case round =>
    obtain ⟨k, hk, rfl, HBK, HL⟩ := hrel
    clear HBK4 HL4 u0 u1 u2
    by_cases hlt : k < o.syms.length
    · have hk1 : (k : Int) < o.syms.length := by omega
      obtain ⟨b, f, rfl, hbl, hcell⟩ := HSC.out (by omega)
      obtain ⟨c0, c1⟩ := hcell k hlt
      rw [← HBK.out.bel.cell (by exact hbl)] at c0 c1
      obtain ⟨s, hs⟩ : ∃ s, s = o.syms[k] := ⟨_, rfl⟩
      rw [← hs] at c0 c1
      have HS := Lib.hid hs
      have hks := KS.out s (hs ▸ List.getElem_mem hlt)
      have hnl := nameR_len hks.1
      clear hcell hs hks
      have HBKa := Lib.hid (HBK.out.alloc (.cells #[.string ⟨s.name.toArray⟩, .int .i64 s.pos] 110))
      clear HBK
      go_wp2_with fail
      refine (nameW_any _ _ s.name _ _ HBKa.out.out (by have := HL.out; omega) (by omega)).mono ?_
      rintro e w5 ⟨v5, rfl, ho5, vm, wm, hom, hgm, hg5⟩
      have hbx := hom.box hg5 (HBKa.out.out.box hgm (heap_alloc_new wr (.cells #[.string ⟨s.name.toArray⟩, .int .i64 s.pos] 110)) (by decide)) (by decide)
      have HBK5 := Lib.hid ((HBKa.out.step hom hgm).step ho5 hg5)
      have d1 : w5.cell? ⟨wr.heap.size, 1, none⟩ = some (.int .i64 s.pos) := cell_of_block hbx rfl
      clear hbx hom hgm ho5 hg5 HBKa c0 c1
      go_wp2_with fail
      refine (number4 _ _ _ _ _ HBK5.out.out (by have := HL.out; simp only [List.length_append, List.length_cons] at *; omega)).mono ?_
      rintro e w6 ⟨v6, rfl, ho6, hg6⟩
      have HBK6 : Hid (BK w w6 w.heap.size (.slice cad o.code.length ccap) (.slice (some ⟨b, f, none⟩) o.syms.length scap) (.slice rad o.rels.length rcap) v6 (preS o ++ (o.syms.take (k + 1)).flatMap symB)) := by
        have := HBK5.out.step ho6 hg6
        rw [flat_take _ _ _ hlt, ← HS.out]
        unfold Hid
        simpa [symB] using this
      have HL6 : Hid ((preS o ++ (o.syms.take (k + 1)).flatMap symB).length ≤ 8011 + (k + 1) * 15) := by
        have := HL.out
        unfold Hid
        rw [flat_take _ _ _ hlt, ← HS.out]
        simp only [List.length_append, symB, List.length_cons, be4_len] at *
        omega
      clear HBK5 ho6 hg6 d1
      go_wp2
      exact ⟨⟨k + 1, by omega, by go_num, HBK6, HL6⟩, by simp [intOf]; omega⟩
    · have hk1 : ¬ (k : Int) < o.syms.length := by omega
      have hke : o.syms.take k = o.syms := List.take_of_length_le (by omega)
      rw [hke] at HBK HL
      obtain ⟨u0, u1, u2⟩ := HBK.out.cells
      clear hke HSC KS
      go_wp2_with fail
      refine (number4 _ _ _ _ _ HBK.out.out (by have := HL.out; omega)).mono ?_
      rintro e w5 ⟨v5, rfl, ho5, hg5⟩
      have HBK5 : Hid (BK w w5 w.heap.size (.slice cad o.code.length ccap) (.slice sad o.syms.length scap) (.slice rad o.rels.length rcap) v5 (preR o)) := by
        have := HBK.out.step ho5 hg5
        unfold Hid
        simpa [preR] using this
      have HL5 : Hid ((preR o).length ≤ 12000) := by
        have := HL.out
        unfold Hid
        simp only [preR, List.length_append, be4_len] at *
        omega
      obtain ⟨x0, x1, x2⟩ := HBK5.out.cells
      clear HBK HL ho5 hg5 u0 u1 u2
      go_wp2
      go_loopw [5, 54] (fun v i wr => ∃ k : Nat, k ≤ o.rels.length ∧ i = .int .i64 k ∧ Hid (BK w wr w.heap.size (.slice cad o.code.length ccap) (.slice sad o.syms.length scap) (.slice rad o.rels.length rcap) v (preR o ++ (o.rels.take k).flatMap relB)) ∧ Hid ((preR o ++ (o.rels.take k).flatMap relB).length ≤ 12000 + k * 20)) (fun _ i _ => o.rels.length - (intOf i).toNat)
      case atStart => exact ⟨0, Nat.zero_le _, rfl, by simpa using HBK5, by simpa using HL5⟩
      case round =>
        obtain ⟨k, hk, rfl, HBK, HL⟩ := hrel
        clear HBK5 HL5 x0 x1 x2
        by_cases hlt : k < o.rels.length
        · have hk1 : (k : Int) < o.rels.length := by omega
          obtain ⟨b, f, rfl, hbl, hcell⟩ := HRC.out (by omega)
          obtain ⟨c0, c1, c2, c3⟩ := hcell k hlt
          rw [← HBK.out.bel.cell (by exact hbl)] at c0 c1 c2 c3
          obtain ⟨s, hs⟩ : ∃ s, s = o.rels[k] := ⟨_, rfl⟩
          rw [← hs] at c0 c1 c2 c3
          have HS := Lib.hid hs
          have hnl : s.name.length ≤ 10 := by
            rcases (KR.out s (hs ▸ List.getElem_mem hlt)).2.2.2.1 with h | h
            · rw [h]; decide
            · exact nameR_len h
          clear hcell hs
          have HBKa := Lib.hid (HBK.out.alloc (.cells #[.int .i64 s.pos, .int .i64 s.size, .string ⟨s.name.toArray⟩, .int .i64 s.add] 113))
          have hbx := heap_alloc_new wr (.cells #[.int .i64 s.pos, .int .i64 s.size, .string ⟨s.name.toArray⟩, .int .i64 s.add] 113)
          have HBX := Lib.hid hbx
          clear HBK hbx
          have hL := HL.out
          have HL0 := HL
          clear HL
          go_wp2_with fail
          refine (number4 _ _ _ _ _ HBKa.out.out (by omega)).mono ?_
          rintro e w5 ⟨v5, rfl, ho5, hg5⟩
          have HBX5 := Lib.hid (HBKa.out.out.box hg5 HBX.out (by decide))
          have HBK5 := Lib.hid (HBKa.out.step ho5 hg5)
          have d1 : w5.cell? ⟨wr.heap.size, 1, none⟩ = some (.int .i64 s.size) := cell_of_block HBX5.out rfl
          clear HBX ho5 hg5 HBKa c0 c1 c2 c3
          go_wp2_with fail
          refine (number1 _ _ _ _ _ HBK5.out.out (by simp only [List.length_append, be4_len] at *; omega)).mono ?_
          rintro e w6 ⟨v6, rfl, ho6, hg6⟩
          have HBX6 := Lib.hid (HBK5.out.out.box hg6 HBX5.out (by decide))
          have HBK6 := Lib.hid (HBK5.out.step ho6 hg6)
          have d2 : w6.cell? ⟨wr.heap.size, 2, none⟩ = some (.string ⟨s.name.toArray⟩) := cell_of_block HBX6.out rfl
          clear HBX5 ho6 hg6 HBK5 d1
          go_wp2_with fail
          refine (nameW_any _ _ s.name _ _ HBK6.out.out (by simp only [List.length_append, be4_len, List.length_cons, List.length_nil] at *; omega) (by omega)).mono ?_
          rintro e w7 ⟨v7, rfl, ho7, vm, wm, hom, hgm, hg7⟩
          have HBX7 := Lib.hid (hom.box hg7 (HBK6.out.out.box hgm HBX6.out (by decide)) (by decide))
          have HBK7 := Lib.hid ((HBK6.out.step hom hgm).step ho7 hg7)
          have d3 : w7.cell? ⟨wr.heap.size, 3, none⟩ = some (.int .i64 s.add) := cell_of_block HBX7.out rfl
          clear HBX6 hom hgm ho7 hg7 HBK6 d2
          go_wp2_with fail
          refine (number4 _ _ _ _ _ HBK7.out.out (by simp only [List.length_append, be4_len, List.length_cons, List.length_nil] at *; omega)).mono ?_
          rintro e w8 ⟨v8, rfl, ho8, hg8⟩
          have HBK8 : Hid (BK w w8 w.heap.size (.slice cad o.code.length ccap) (.slice sad o.syms.length scap) (.slice (some ⟨b, f, none⟩) o.rels.length rcap) v8 (preR o ++ (o.rels.take (k + 1)).flatMap relB)) := by
            have := HBK7.out.step ho8 hg8
            rw [flat_take _ _ _ hlt, ← HS.out]
            unfold Hid
            simpa [relB] using this
          have HL8 : Hid ((preR o ++ (o.rels.take (k + 1)).flatMap relB).length ≤ 12000 + (k + 1) * 20) := by
            unfold Hid
            rw [flat_take _ _ _ hlt, ← HS.out]
            simp only [List.length_append, relB, List.length_cons, be4_len] at *
            omega
          clear HBK7 ho8 hg8 d3 HBX7 hL HL0
          go_wp2
          exact ⟨⟨k + 1, by omega, by go_num, HBK8, HL8⟩, by simp [intOf]; omega⟩
        · have hk1 : ¬ (k : Int) < o.rels.length := by omega
          have hke : o.rels.take k = o.rels := List.take_of_length_le (by omega)
          rw [hke] at HBK
          rw [← bytesO_pre] at HBK
          have HO := Lib.hid (And.intro HBK.out.bel HBK.out.out)
          clear hke HBK HL HRC KR
          go_wp2
          go_ret2
          exact ⟨_, rfl, HO.out.1, HO.out.2⟩

end Go.Proofs.YtbpoiajpcahdhaaGreatDoor.Li
