/- The contracts of the program's own number and name, that write onto bytes. -/
import Derived.Test.YtobdcnpifbnjaacOcOb
import Derived.Lib.AppendStr
namespace Go.Proofs.Ytobdcnpifbnjaac
open Go.RowKit

/-- Bytes that the call itself has made, from block base on. -/
def Out (w : World) (base : Nat) (v : Value) (l : List UInt8) : Prop := w.ownsRow base 5 1 v l.length (bcells l) ∧ base ≤ w.heap.size
theorem Out.lt {w : World} {base : Nat} {v : Value} {l : List UInt8} (h : Out w base v l) : ∀ k, v.ownBlock = some k → base ≤ k ∧ k < w.heap.size := h.1.lt
/-- A block of another type is not the row. -/
theorem Out.other {w : World} {base : Nat} {v : Value} {l : List UInt8} (h : Out w base v l) {b : Nat} {c : Array Value} {t : TypeId} {f : Nat × Nat} (hb : w.heap[b]? = some (.cells c t f)) (ht : t ≠ 5) : some b ≠ v.ownBlock := by
  rcases h.1.2 with ⟨rfl, _⟩ | ⟨g, cap, cur, rfl, _, hg, _⟩
  · simp [Value.ownBlock]
  · intro e
    simp only [Value.ownBlock, Option.some.injEq] at e
    subst e
    rw [hb] at hg
    injection hg with hg
    injection hg with _ h2
    exact ht h2
theorem Out.box {w w' : World} {base : Nat} {v : Value} {l : List UInt8} (h : Out w base v l) (hg : w.grownBy w' v.ownBlock) {b : Nat} {c : Array Value} {t : TypeId} {f : Nat × Nat} (hb : w.heap[b]? = some (.cells c t f)) (ht : t ≠ 5) : w'.heap[b]? = some (.cells c t f) := by
  rw [hg.block b (Array.getElem?_eq_some_iff.1 hb).1 (h.other hb ht)]
  exact hb
theorem Out.alloc {w : World} {base : Nat} {v : Value} {l : List UInt8} (h : Out w base v l) (o : Obj) : Out (w.alloc o) base v l := ⟨h.1.alloc o, by have := h.2; simp; omega⟩
theorem Out.below {w w' : World} {base B : Nat} {v : Value} {l : List UInt8} (h : Out w base v l) (hb : Below B w w') (hB : w.heap.size ≤ B) : Out w' base v l :=
  ⟨h.1.kept (ogbelow none hb hB) (by cases v.ownBlock <;> simp), Nat.le_trans h.2 hb.size⟩
theorem Out.grown {w0 w w' : World} {base B : Nat} {v : Value} {l : List UInt8} (h : Out w base v l) (hb : Below B w0 w) (hg : w.grownBy w' v.ownBlock) (hB : B ≤ base) : Below B w0 w' :=
  hb.grown hg (Nat.le_trans hB h.2) (fun j hj => Nat.le_trans hB (h.lt j hj).1)
theorem Out.bytes {w : World} {base : Nat} {v : Value} {l : List UInt8} (h : Out w base v l) (hl : l.length ≤ maxLen) : OBytes w v l := by
  rcases h.1.2 with ⟨rfl, h0⟩ | ⟨g, cap, cur, rfl, _, hg, _, _, _, htake⟩
  · exact ⟨none, 0, by rw [h0], hl, fun h1 => by omega⟩
  · refine ⟨_, cap, rfl, hl, fun _ => ⟨g, 0, rfl, (Array.getElem?_eq_some_iff.1 hg).1, fun i hi => ?_⟩⟩
    have := h.1.cells (g := g) rfl i (.int .u8 (l[i].toNat : Int)) (by simp [bcells, hi])
    rwa [addr_add] at this

/-- A number in so many bytes. -/
def putB (k : Nat) (n : Int) : List UInt8 := if k = 1 then [lowB n] else be4 n
theorem putB_len {k : Nat} (hk : k = 1 ∨ k = 4) (n : Int) : (putB k n).length = k := by rcases hk with rfl | rfl <;> rfl
theorem put_cells {k : Nat} (hk : k = 1 ∨ k = 4) (n : Int) {w : World} {g : Nat} (h : ∀ i, i < k → w.cell? ⟨g, i, none⟩ = some (.int .u8 (Oi.putAt (fun _ => 0) 0 k n i))) : ∀ j u, (bcells (putB k n))[j]? = some u → w.cell? ((⟨g, 0, none⟩ : Addr).add j) = some u := by
  intro j u hj
  rw [addr_add, Nat.zero_add]
  have e0 : ∀ m : Int, ((lowB m).toNat : Int) = m % 256 := lowB_nat
  rcases hk with rfl | rfl
  · match j, hj with
    | 0, hj =>
      rw [h 0 (by decide)]
      simp only [putB, if_true, bcells, List.map_cons, List.map_nil, List.getElem?_cons_zero, Option.some.injEq] at hj
      rw [← hj, e0]
      simp [Oi.putAt]
  · match j, hj with
    | 0, hj =>
      rw [h 0 (by decide)]
      simp only [putB, be4, bcells, List.map_cons, List.map_nil, List.getElem?_cons_zero, Option.some.injEq, show ¬ (4 = 1) by decide, if_false] at hj
      rw [← hj, e0]
      simp [Oi.putAt]
    | 1, hj =>
      rw [h 1 (by decide)]
      simp only [putB, be4, bcells, List.map_cons, List.map_nil, List.getElem?_cons_zero, List.getElem?_cons_succ, Option.some.injEq, show ¬ (4 = 1) by decide, if_false] at hj
      rw [← hj, e0]
      simp [Oi.putAt]
    | 2, hj =>
      rw [h 2 (by decide)]
      simp only [putB, be4, bcells, List.map_cons, List.map_nil, List.getElem?_cons_zero, List.getElem?_cons_succ, Option.some.injEq, show ¬ (4 = 1) by decide, if_false] at hj
      rw [← hj, e0]
      simp [Oi.putAt]
    | 3, hj =>
      rw [h 3 (by decide)]
      simp only [putB, be4, bcells, List.map_cons, List.map_nil, List.getElem?_cons_zero, List.getElem?_cons_succ, Option.some.injEq, show ¬ (4 = 1) by decide, if_false] at hj
      rw [← hj, e0]
      simp [Oi.putAt]
    | j + 4, hj => simp [putB, be4, bcells] at hj

theorem bcells_app (a b : List UInt8) : bcells (a ++ b) = bcells a ++ bcells b := by simp [bcells]

/-- Bytes appended onto one's own. -/
theorem app_bytes {w : World} {base : Nat} {v : Value} {l : List UInt8} (ho : Out w base v l) (a : Addr) (m c : Nat) (news : List UInt8) (hm : news.length = m) (hsrc : ∀ j u, (bcells news)[j]? = some u → w.cell? (a.add j) = some u) (hl : l.length + m ≤ 140737488355328) :
    ∃ v' w', (∀ ty, (Builtin.append_ #[22, 22] ty #[v, .slice (some a) m c]).run Try.prog w = .ok v' w') ∧ Out w' base v' (l ++ news) ∧ w.grownBy w' v.ownBlock := by
  obtain ⟨i, hi, hz0, hz1, hz2⟩ := info_parts infoB
  have key := fun ty => run_append_own (P := Try.prog) w base 22 ty 5 i _ 1 1 Try.underlying22 hi hz0 hz1 hz2 rfl (by decide) v l.length (bcells l) ho.1 a m c (bcells news) (by rw [bcells_len, hm]) hsrc (bcells_one news) (by unfold maxLen; omega) (by omega) ho.2
  obtain ⟨v', w', hr, h2, h3, _⟩ := key 0
  refine ⟨v', w', fun ty => ?_, ⟨?_, Nat.le_trans ho.2 h3.size⟩, h3⟩
  · obtain ⟨v2, w2, hr2, _⟩ := key ty
    have e : (Builtin.append_ #[22, 22] ty #[v, .slice (some a) m c]).run Try.prog w = (Builtin.append_ #[22, 22] 0 #[v, .slice (some a) m c]).run Try.prog w := rfl
    rw [e, hr]
  · rw [bcells_app, List.length_append, hm]
    exact h2
theorem app_string {w : World} {base : Nat} {v : Value} {l : List UInt8} (ho : Out w base v l) (s : List UInt8) (hl : l.length + s.length ≤ 140737488355328) :
    ∃ v' w', (∀ ty, (Builtin.append_ #[22, 9] ty #[v, .string ⟨s.toArray⟩]).run Try.prog w = .ok v' w') ∧ Out w' base v' (l ++ s) ∧ w.grownBy w' v.ownBlock := by
  obtain ⟨i, hi, hz0, hz1, hz2⟩ := info_parts infoB
  have hsz : (⟨s.toArray⟩ : ByteArray).size = s.length := by simp [ByteArray.size]
  obtain ⟨v', w', hr, h2, h3, _⟩ := Lib.run_append_own_string (P := Try.prog) w base 22 9 0 5 i Try.underlying22 Try.underlying9 hi hz0 hz1 hz2 v l.length (bcells l) ho.1 ⟨s.toArray⟩ (by rw [hsz]; unfold maxLen; omega) (by rw [hsz]; omega) ho.2
  refine ⟨v', w', fun ty => ?_, ⟨?_, Nat.le_trans ho.2 h3.size⟩, h3⟩
  · exact hr
  · rw [bcells_app, List.length_append, ← hsz]
    exact h2

/-- An append whose run is known. -/
theorem wpList_app_eq {P : Program} {w : World} {ops : Array Oper} {rest : List Oper} {o : Oper} {a : Act} {Q : Exit → Act → World → Prop} (hgd : o.guard = none) (sl x : Operand) (t u : TypeId)
    (ho : o.op = .call { callee := .builtin .append, args := #[sl, x], argTypes := #[t, u] }) (v v2 : Value) (hs : a.eval sl = v) (hx : a.eval x = v2) {v' : Value} {w' : World}
    (hr : ∀ ty, (Builtin.append_ #[t, u] ty #[v, v2]).run P w = .ok v' w') (h : wpList P ops Q rest (a.put o.dst v') w') : wpList P ops Q (o :: rest) a w := by
  refine wpList_plain hgd fun K hK => ?_
  have hr := hr o.type
  unfold Oper.wp execOp
  simp only [ho, resolve, invoke, builtin, Sem.run_bind, Sem.run_pure, Result.andThen_ok, List.map_toArray, List.map_cons, List.map_nil, hs, hx, hr]
  exact hK _ _ h

/-- A full row, whatever of it is frozen: what is appended makes a new row. -/
theorem app_full {w : World} {base g : Nat} {l : List UInt8} {cur : Array Value} {fz : Nat × Nat} (hg : w.heap[g]? = some (.cells cur 5 fz)) (hcur : cur.toList = bcells l) (hb : base ≤ w.heap.size) (a : Addr) (m c : Nat) (news : List UInt8) (hm : news.length = m) (h0 : 0 < m) (hsrc : ∀ j u, (bcells news)[j]? = some u → w.cell? (a.add j) = some u) (hl : l.length + m ≤ 140737488355328) :
    ∃ v' w', (∀ ty, (Builtin.append_ #[22, 22] ty #[.slice (some ⟨g, 0, none⟩) l.length l.length, .slice (some a) m c]).run Try.prog w = .ok v' w') ∧ Out w' base v' (l ++ news) ∧ w.grownBy w' none := by
  obtain ⟨i, hi, hz0, hz1, hz2⟩ := info_parts infoB
  have hcells : ∀ j u, (bcells l)[j]? = some u → w.drew.cell? ((⟨g, 0, none⟩ : Addr).add j) = some u := fun j u hj => by
    rw [addr_add, Nat.zero_add, World.cell?_drew]
    unfold World.cell?
    simp only [hg]
    rw [← hcur] at hj
    simpa using hj
  have hold := run_firstCells_some (P := Try.prog) w.drew i.size l.length ⟨g, 0, none⟩ l.length l.length (bcells l) (by rw [hz1, bcells_len]) hcells
  have hS : Src Try.prog i.size 22 (.slice (some a) m c) m (bcells news) w := Src.ofSlice w Try.underlying22 a m c (bcells news) (by rw [hz1, bcells_len, hm]) hsrc (bcells_one news)
  have hfit : Builtin.nextslicecap (l.length + m) l.length * i.bytes ≤ 281474976710656 := by rw [hz2]; exact growslice_fits (by omega) (by omega)
  have hr := fun ty => run_append_grow_src (P := Try.prog) w 22 22 ty 5 i _ Try.underlying22 hi hz0 (some ⟨g, 0, none⟩) l.length l.length (bcells l) hold (.slice (some a) m c) m (bcells news) hS (by omega) (by omega) hfit
  have hge := grownCap_ge w (l.length + m) l.length 5
  have hcm : grownCap w (l.length + m) l.length 5 ≤ maxLen := grownCap_le_maxLen w (l.length + m) l.length 5 (by unfold maxLen; omega)
  have hlen : (bcells l ++ bcells news).length = l.length + m := by rw [List.length_append, bcells_len, bcells_len, hm]; omega
  refine ⟨_, _, hr, ⟨⟨by rw [bcells_len], .inr ⟨w.heap.size, _, _, ?_, hb, heap_alloc_new w.drew _, ?_, hcm, ?_, ?_⟩⟩, by simp; omega⟩, ⟨rfl, rfl, rfl, by simp, fun k hk _ => Below.heap_alloc w.drew _ k (by simpa using hk)⟩⟩
  · rw [List.length_append, hm]
  · rw [List.length_append, hm]; exact hge
  · have hz : (Value.int IntKind.u8 0).cells.size = 1 := rfl
    simp only [Array.size_append, List.size_toArray, size_zeroCells, hz, hlen]
    omega
  · rw [List.length_append, hm, bcells_app]
    simp only [Array.toList_append]
    rw [← hlen, Nat.mul_one]
    exact List.take_left

/-- What can be appended onto. -/
def CanApp (w : World) (base : Nat) (v : Value) (l : List UInt8) (row : Option Nat) : Prop :=
  ∀ W, Below w.heap.size w W → ∀ (a : Addr) (m c : Nat) (news : List UInt8), news.length = m → 0 < m → (∀ j u, (bcells news)[j]? = some u → W.cell? (a.add j) = some u) → l.length + m ≤ 140737488355328 →
    ∃ v' w', (∀ ty, (Builtin.append_ #[22, 22] ty #[v, .slice (some a) m c]).run Try.prog W = .ok v' w') ∧ Out w' base v' (l ++ news) ∧ W.grownBy w' row
theorem Out.canApp {w : World} {base : Nat} {v : Value} {l : List UInt8} (h : Out w base v l) : CanApp w base v l v.ownBlock := fun _ hW a m c news hm _ hs hl => app_bytes (h.below hW (Nat.le_refl _)) a m c news hm hs hl
theorem full_canApp {w : World} {base g : Nat} {l : List UInt8} {cur : Array Value} {fz : Nat × Nat} (hg : w.heap[g]? = some (.cells cur 5 fz)) (hcur : cur.toList = bcells l) (hb : base ≤ w.heap.size) : CanApp w base (.slice (some ⟨g, 0, none⟩) l.length l.length) l none :=
  fun W hW a m c news hm h0 hs hl => app_full (by rw [hW.block g (Array.getElem?_eq_some_iff.1 hg).1]; exact hg) hcur (Nat.le_trans hb hW.size) a m c news hm h0 hs hl

set_option maxHeartbeats 2000000 in
theorem number_gen (v : Value) (l : List UInt8) (k : Nat) (hk : k = 1 ∨ k = 4) (n : Int) (w : World) (base : Nat) (row : Option Nat) (hca : CanApp w base v l row) (hl : l.length ≤ 1099511627776) :
    Calls Try.prog 12 #[v, .int .i64 (k : Int), .int .i64 n] w fun e w' => ∃ v', e = .returned v' ∧ Out w' base v' (l ++ putB k n) ∧ w.grownBy w' row := by
  have hmk := makeB k (by omega)
  simp only [Nat.mul_one] at hmk
  have hput := Oi.put_any (some ⟨w.heap.size, 0, none⟩) k k (fun _ => 0) 0 k n (w.alloc (.cells (madeCells #[.int .u8 0] k) 5)) (by omega) (fun _ => ⟨w.heap.size, 0, rfl, fun i hi => by
    have e := heap_alloc_new w (.cells (madeCells #[.int .u8 0] k) 5)
    unfold World.cell?
    simp only [e]
    simp [madeCells, hi, Nat.mod_one]⟩) (by omega) (by omega) (by omega) (by omega)
  have HAPP : Hid (∀ w2, Below (w.heap.size + 1) (w.alloc (.cells (madeCells #[.int .u8 0] k) 5)) w2 → (∀ i, i < k → w2.cell? ⟨w.heap.size + 1, i, none⟩ = some (.int .u8 (Oi.putAt (fun _ => 0) 0 k n i))) →
      ∃ v' w', (∀ ty, (Builtin.append_ #[22, 22] ty #[v, .slice (some ⟨w.heap.size + 1, 0, none⟩) k k]).run Try.prog w2 = .ok v' w') ∧ Hid (Out w' base v' (l ++ putB k n) ∧ w.grownBy w' row)) := fun w2 hb2 hc2 => by
    have hb2' : Below (w.alloc (.cells (madeCells #[.int .u8 0] k) 5)).heap.size (w.alloc (.cells (madeCells #[.int .u8 0] k) 5)) w2 := by simpa using hb2
    obtain ⟨v', w', h1, h2, h3⟩ := hca w2 ((oalloc w (.cells (madeCells #[.int .u8 0] k) 5)).trans (hb2.mono (Nat.le_succ _))) ⟨w.heap.size + 1, 0, none⟩ k k (putB k n) (putB_len hk n) (by omega) (put_cells hk n hc2) (by omega)
    exact ⟨v', w', h1, h2, ogtrans (ogtrans (World.grownBy_alloc _ _ _) (ogbelow _ hb2' (Nat.le_refl _))) h3⟩
  clear hca hl
  simp only [World.size_alloc] at hput
  clear hk
  go_enter Try.func12, Try.ntmps12
  go_wp2_with (first | (go_at_call 30; refine hput.mono ?_; rintro e w2 ⟨rfl, hb2, hz2, hc2⟩; obtain ⟨v', w3, happ, HO3⟩ := HAPP.out w2 hb2 hc2; have HA := Lib.hid happ; clear hb2 hz2 hc2 hmk happ) | (at_builtin; refine wpList_app_eq rfl _ _ _ _ rfl _ _ rfl rfl HA.out ?_))
  go_ret
  exact ⟨_, rfl, HO3.out.1, HO3.out.2⟩
theorem number_any (v : Value) (l : List UInt8) (k : Nat) (hk : k = 1 ∨ k = 4) (n : Int) (w : World) (base : Nat) (ho : Out w base v l) (hl : l.length ≤ 1099511627776) :
    Calls Try.prog 12 #[v, .int .i64 (k : Int), .int .i64 n] w fun e w' => ∃ v', e = .returned v' ∧ Out w' base v' (l ++ putB k n) ∧ w.grownBy w' v.ownBlock := number_gen v l k hk n w base _ ho.canApp hl

set_option maxHeartbeats 2000000 in
theorem nameW_any (v : Value) (l s : List UInt8) (w : World) (base : Nat) (ho : Out w base v l) (hl : l.length ≤ 1099511627775) (hs : s.length ≤ 1099511627776) :
    Calls Try.prog 13 #[v, .string ⟨s.toArray⟩] w fun e w' => ∃ v', e = .returned v' ∧ Out w' base v' (l ++ lowB s.length :: s) ∧ ∃ v1 w1, Out w1 base v1 (l ++ [lowB s.length]) ∧ w.grownBy w1 v.ownBlock ∧ w1.grownBy w' v1.ownBlock := by
  have hnum := number_any v l 1 (.inl rfl) s.length w base ho (by omega)
  have HAPP : Hid (∀ v1 w1, Out w1 base v1 (l ++ [lowB s.length]) → w.grownBy w1 v.ownBlock → ∃ v' w', (∀ ty, (Builtin.append_ #[22, 9] ty #[v1, .string ⟨s.toArray⟩]).run Try.prog w1 = .ok v' w') ∧ Hid (Out w' base v' (l ++ lowB s.length :: s) ∧ ∃ v1 w1, Out w1 base v1 (l ++ [lowB s.length]) ∧ w.grownBy w1 v.ownBlock ∧ w1.grownBy w' v1.ownBlock)) := fun v1 w1 ho1 hg1 => by
    obtain ⟨v', w', h1, h2, h3⟩ := app_string ho1 s (by simp; omega)
    exact ⟨v', w', h1, by simpa using h2, v1, w1, ho1, hg1, h3⟩
  have hsz : ((⟨s.toArray⟩ : ByteArray).size : Int) = s.length := by simp [ByteArray.size]
  clear ho
  go_enter Try.func13, Try.ntmps13
  go_wp2_with (first | (go_at_call 12; refine hnum.mono ?_; rintro e w1 ⟨v1, rfl, ho1, hg1⟩; obtain ⟨v', w3, happ, HO3⟩ := HAPP.out v1 w1 ho1 hg1; have HA := Lib.hid happ; clear ho1 hg1 happ) | (at_builtin; refine wpList_app_eq rfl _ _ _ _ rfl _ _ rfl rfl HA.out ?_))
  go_ret
  exact ⟨_, rfl, HO3.out.1, HO3.out.2⟩

end Go.Proofs.Ytobdcnpifbnjaac
