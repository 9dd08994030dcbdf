/- Bytes in memory: rows that a call has made itself, what is appended onto them, bytes that lie ahead of a block. -/
import Derived.Test.YtmbjahjkgjkbhaaDoorOcGet
import Derived.Deep.AppendSrc
import Derived.Lib.ConvBytes
namespace Go.Proofs.YtmbjahjkgjkbhaaDoor
open Go.RowKit

def bcells (l : List UInt8) : List Value := l.map fun c => .int .u8 (c.toNat : Int)
theorem bcells_len (l : List UInt8) : (bcells l).length = l.length * 1 := by simp [bcells]
theorem bcells_one (l : List UInt8) : ∀ v ∈ bcells l, v.oneCell' = true := by
  intro v hv
  obtain ⟨c, _, rfl⟩ := List.mem_map.1 hv
  rfl
theorem addr_add (b o j : Nat) : (⟨b, o, none⟩ : Addr).add j = ⟨b, o + j, none⟩ := by unfold Addr.add; split <;> simp_all
/-- Where the cells of a row lie. -/
def SrcOf (w : World) (ad : Option Addr) (n : Nat) (cs : List Value) : Prop := 0 < n → ∃ b o, ad = some ⟨b, o, none⟩ ∧ b < w.heap.size ∧ ∀ j v, cs[j]? = some v → w.cell? ⟨b, o + j, none⟩ = some v
theorem SrcOf.below {w w' : World} {B : Nat} {ad : Option Addr} {n : Nat} {cs : List Value} (h : SrcOf w ad n cs) (hb : Below B w w') (hB : w.heap.size ≤ B) : SrcOf w' ad n cs := fun h0 => by
  obtain ⟨b, o, rfl, hl, hc⟩ := h h0
  exact ⟨b, o, rfl, Nat.lt_of_lt_of_le hl hb.size, fun j v hj => by rw [hb.cell (by show b < B; omega)]; exact hc j v hj⟩
theorem OBytes.src {w : World} {v : Value} {l : List UInt8} (h : OBytes w v l) : ∃ ad cap, v = .slice ad l.length cap ∧ SrcOf w ad l.length (bcells l) := by
  obtain ⟨ad, cap, rfl, _, hc⟩ := h
  refine ⟨ad, cap, rfl, fun h0 => ?_⟩
  obtain ⟨b, o, rfl, hl, hcs⟩ := hc h0
  refine ⟨b, o, rfl, hl, fun j v hj => ?_⟩
  obtain ⟨hj1, hj2⟩ := List.getElem?_eq_some_iff.1 hj
  have hj3 : j < l.length := by simpa [bcells] using hj1
  rw [hcs j hj3, ← hj2]
  simp [bcells]
theorem bytes_of_src {w : World} {ad : Option Addr} {cap : Nat} {l : List UInt8} (h : SrcOf w ad l.length (bcells l)) (hm : l.length ≤ maxLen) : OBytes w (.slice ad l.length cap) l := by
  refine ⟨ad, cap, rfl, hm, fun h0 => ?_⟩
  obtain ⟨b, o, rfl, hl, hc⟩ := h h0
  exact ⟨b, o, rfl, hl, fun i hi => hc i _ (by simp [bcells, hi])⟩
theorem infoB : (Tryd.prog.info? 5).map (fun i => (i.zero, i.size, i.bytes)) = some (some (.int .u8 0), 1, 1) := by kernel_rfl
theorem sizeB : (Tryd.prog.info? 5).map (·.size) = some 1 := by kernel_rfl
theorem makeB (n : Nat) (hn : n * 1 ≤ 140737488355328) (w : World) : (Instr.makeSlice 25 (.int .i64 (n : Int)) (.int .i64 (n : Int))).run Tryd.prog w = .ok (.slice (some ⟨w.heap.size, 0, none⟩) n n) (w.alloc (.cells (madeCells #[.int .u8 0] (n * 1)) 5)) := by
  obtain ⟨i, hi, hz0, hz1, hz2⟩ := info_parts infoB
  have := run_make (P := Tryd.prog) w 25 5 i _ Tryd.underlying25 hi hz0 .i64 .i64 (n : Int) (n : Int) (by omega) (by omega) (by rw [hz2]; omega) (by omega)
  rw [hz1] at this
  exact this
/-- A row of its own. -/
theorem src_of_block {w : World} {g n size : Nat} {e : TypeId} {cs : List Value} (h : w.heap[g]? = some (.cells cs.toArray e (0, 0))) (_ : cs.length = n * size) : SrcOf w (some ⟨g, 0, none⟩) n cs := fun _ => by
  refine ⟨g, 0, rfl, (Array.getElem?_eq_some_iff.1 h).1, fun j v hj => ?_⟩
  rw [Nat.zero_add]
  unfold World.cell?
  simp only [h]
  simpa using hj
/-- Bytes that the call itself has made, from block base on. -/
def Out (w : World) (base : Nat) (v : Value) (l : List UInt8) : Prop := w.ownsRow base 5 1 v l.length (bcells l) ∧ base ≤ w.heap.size
theorem Out.lt {w : World} {base : Nat} {v : Value} {l : List UInt8} (h : Out w base v l) : ∀ k, v.ownBlock = some k → base ≤ k ∧ k < w.heap.size := h.1.lt
/-- A block of another type is not the row. -/
theorem Out.other {w : World} {base : Nat} {v : Value} {l : List UInt8} (h : Out w base v l) {b : Nat} {c : Array Value} {t : TypeId} {f : Nat × Nat} (hb : w.heap[b]? = some (.cells c t f)) (ht : t ≠ 5) : some b ≠ v.ownBlock := by
  rcases h.1.2 with ⟨rfl, _⟩ | ⟨g, cap, cur, rfl, _, hg, _⟩
  · simp [Value.ownBlock]
  · intro e
    simp only [Value.ownBlock, Option.some.injEq] at e
    subst e
    rw [hb] at hg
    injection hg with hg
    injection hg with _ h2
    exact ht h2
theorem Out.box {w w' : World} {base : Nat} {v : Value} {l : List UInt8} (h : Out w base v l) (hg : w.grownBy w' v.ownBlock) {b : Nat} {c : Array Value} {t : TypeId} {f : Nat × Nat} (hb : w.heap[b]? = some (.cells c t f)) (ht : t ≠ 5) : w'.heap[b]? = some (.cells c t f) := by
  rw [hg.block b (Array.getElem?_eq_some_iff.1 hb).1 (h.other hb ht)]
  exact hb
theorem Out.alloc {w : World} {base : Nat} {v : Value} {l : List UInt8} (h : Out w base v l) (o : Obj) : Out (w.alloc o) base v l := ⟨h.1.alloc o, by have := h.2; simp; omega⟩
theorem Out.below {w w' : World} {base B : Nat} {v : Value} {l : List UInt8} (h : Out w base v l) (hb : Below B w w') (hB : w.heap.size ≤ B) : Out w' base v l :=
  ⟨h.1.kept (ogbelow none hb hB) (by cases v.ownBlock <;> simp), Nat.le_trans h.2 hb.size⟩
theorem Out.grown {w0 w w' : World} {base B : Nat} {v : Value} {l : List UInt8} (h : Out w base v l) (hb : Below B w0 w) (hg : w.grownBy w' v.ownBlock) (hB : B ≤ base) : Below B w0 w' :=
  hb.grown hg (Nat.le_trans hB h.2) (fun j hj => Nat.le_trans hB (h.lt j hj).1)
theorem Out.bytes {w : World} {base : Nat} {v : Value} {l : List UInt8} (h : Out w base v l) (hl : l.length ≤ maxLen) : OBytes w v l := by
  rcases h.1.2 with ⟨rfl, h0⟩ | ⟨g, cap, cur, rfl, _, hg, _, _, _, htake⟩
  · exact ⟨none, 0, by rw [h0], hl, fun h1 => by omega⟩
  · refine ⟨_, cap, rfl, hl, fun _ => ⟨g, 0, rfl, (Array.getElem?_eq_some_iff.1 hg).1, fun i hi => ?_⟩⟩
    have := h.1.cells (g := g) rfl i (.int .u8 (l[i].toNat : Int)) (by simp [bcells, hi])
    rwa [addr_add] at this
theorem bcells_app (a b : List UInt8) : bcells (a ++ b) = bcells a ++ bcells b := by simp [bcells]
/-- Bytes appended onto one's own. -/
theorem app_bytes {w : World} {base : Nat} {v : Value} {l : List UInt8} (ho : Out w base v l) (a : Addr) (m c : Nat) (news : List UInt8) (hm : news.length = m) (hsrc : ∀ j u, (bcells news)[j]? = some u → w.cell? (a.add j) = some u) (hl : l.length + m ≤ 140737488355328) :
    ∃ v' w', (∀ ty, (Builtin.append_ #[25, 25] ty #[v, .slice (some a) m c]).run Tryd.prog w = .ok v' w') ∧ Out w' base v' (l ++ news) ∧ w.grownBy w' v.ownBlock := by
  obtain ⟨i, hi, hz0, hz1, hz2⟩ := info_parts infoB
  have key := fun ty => run_append_own (P := Tryd.prog) w base 25 ty 5 i _ 1 1 Tryd.underlying25 hi hz0 hz1 hz2 rfl (by decide) v l.length (bcells l) ho.1 a m c (bcells news) (by rw [bcells_len, hm]) hsrc (bcells_one news) (by unfold maxLen; omega) (by omega) ho.2
  obtain ⟨v', w', hr, h2, h3, _⟩ := key 0
  refine ⟨v', w', fun ty => ?_, ⟨?_, Nat.le_trans ho.2 h3.size⟩, h3⟩
  · obtain ⟨v2, w2, hr2, _⟩ := key ty
    have e : (Builtin.append_ #[25, 25] ty #[v, .slice (some a) m c]).run Tryd.prog w = (Builtin.append_ #[25, 25] 0 #[v, .slice (some a) m c]).run Tryd.prog w := rfl
    rw [e, hr]
  · rw [bcells_app, List.length_append, hm]
    exact h2
/-- An append whose run is known. -/
theorem wpList_app_eq {P : Program} {w : World} {ops : Array Oper} {rest : List Oper} {o : Oper} {a : Act} {Q : Exit → Act → World → Prop} (hgd : o.guard = none) (sl x : Operand) (t u : TypeId)
    (ho : o.op = .call { callee := .builtin .append, args := #[sl, x], argTypes := #[t, u] }) (v v2 : Value) (hs : a.eval sl = v) (hx : a.eval x = v2) {v' : Value} {w' : World}
    (hr : ∀ ty, (Builtin.append_ #[t, u] ty #[v, v2]).run P w = .ok v' w') (h : wpList P ops Q rest (a.put o.dst v') w') : wpList P ops Q (o :: rest) a w := by
  refine wpList_plain hgd fun K hK => ?_
  have hr := hr o.type
  unfold Oper.wp execOp
  simp only [ho, resolve, invoke, builtin, Sem.run_bind, Sem.run_pure, Result.andThen_ok, List.map_toArray, List.map_cons, List.map_nil, hs, hx, hr]
  exact hK _ _ h
/-- A full row, whatever of it is frozen: what is appended makes a new row. -/
theorem app_full {w : World} {base g : Nat} {l : List UInt8} {cur : Array Value} {fz : Nat × Nat} (hg : w.heap[g]? = some (.cells cur 5 fz)) (hcur : cur.toList = bcells l) (hb : base ≤ w.heap.size) (a : Addr) (m c : Nat) (news : List UInt8) (hm : news.length = m) (h0 : 0 < m) (hsrc : ∀ j u, (bcells news)[j]? = some u → w.cell? (a.add j) = some u) (hl : l.length + m ≤ 140737488355328) :
    ∃ v' w', (∀ ty, (Builtin.append_ #[25, 25] ty #[.slice (some ⟨g, 0, none⟩) l.length l.length, .slice (some a) m c]).run Tryd.prog w = .ok v' w') ∧ Out w' base v' (l ++ news) ∧ w.grownBy w' none := by
  obtain ⟨i, hi, hz0, hz1, hz2⟩ := info_parts infoB
  have hcells : ∀ j u, (bcells l)[j]? = some u → w.drew.cell? ((⟨g, 0, none⟩ : Addr).add j) = some u := fun j u hj => by
    rw [addr_add, Nat.zero_add, World.cell?_drew]
    unfold World.cell?
    simp only [hg]
    rw [← hcur] at hj
    simpa using hj
  have hold := run_firstCells_some (P := Tryd.prog) w.drew i.size l.length ⟨g, 0, none⟩ l.length l.length (bcells l) (by rw [hz1, bcells_len]) hcells
  have hS : Src Tryd.prog i.size 25 (.slice (some a) m c) m (bcells news) w := Src.ofSlice w Tryd.underlying25 a m c (bcells news) (by rw [hz1, bcells_len, hm]) hsrc (bcells_one news)
  have hfit : Builtin.nextslicecap (l.length + m) l.length * i.bytes ≤ 281474976710656 := by rw [hz2]; exact growslice_fits (by omega) (by omega)
  have hr := fun ty => run_append_grow_src (P := Tryd.prog) w 25 25 ty 5 i _ Tryd.underlying25 hi hz0 (some ⟨g, 0, none⟩) l.length l.length (bcells l) hold (.slice (some a) m c) m (bcells news) hS (by omega) (by omega) hfit
  have hge := grownCap_ge w (l.length + m) l.length 5
  have hcm : grownCap w (l.length + m) l.length 5 ≤ maxLen := grownCap_le_maxLen w (l.length + m) l.length 5 (by unfold maxLen; omega)
  have hlen : (bcells l ++ bcells news).length = l.length + m := by rw [List.length_append, bcells_len, bcells_len, hm]; omega
  refine ⟨_, _, hr, ⟨⟨by rw [bcells_len], .inr ⟨w.heap.size, _, _, ?_, hb, heap_alloc_new w.drew _, ?_, hcm, ?_, ?_⟩⟩, by simp; omega⟩, ⟨rfl, rfl, rfl, by simp, fun k hk _ => Below.heap_alloc w.drew _ k (by simpa using hk)⟩⟩
  · rw [List.length_append, hm]
  · rw [List.length_append, hm]; exact hge
  · have hz : (Value.int IntKind.u8 0).cells.size = 1 := rfl
    simp only [Array.size_append, List.size_toArray, size_zeroCells, hz, hlen]
    omega
  · rw [List.length_append, hm, bcells_app]
    simp only [Array.toList_append]
    rw [← hlen, Nat.mul_one]
    exact List.take_left
/-- What can be appended onto. -/
def CanApp (w : World) (base : Nat) (v : Value) (l : List UInt8) (row : Option Nat) : Prop :=
  ∀ W, Below w.heap.size w W → ∀ (a : Addr) (m c : Nat) (news : List UInt8), news.length = m → 0 < m → (∀ j u, (bcells news)[j]? = some u → W.cell? (a.add j) = some u) → l.length + m ≤ 140737488355328 →
    ∃ v' w', (∀ ty, (Builtin.append_ #[25, 25] ty #[v, .slice (some a) m c]).run Tryd.prog W = .ok v' w') ∧ Out w' base v' (l ++ news) ∧ W.grownBy w' row
theorem Out.canApp {w : World} {base : Nat} {v : Value} {l : List UInt8} (h : Out w base v l) : CanApp w base v l v.ownBlock := fun _ hW a m c news hm _ hs hl => app_bytes (h.below hW (Nat.le_refl _)) a m c news hm hs hl
theorem full_canApp {w : World} {base g : Nat} {l : List UInt8} {cur : Array Value} {fz : Nat × Nat} (hg : w.heap[g]? = some (.cells cur 5 fz)) (hcur : cur.toList = bcells l) (hb : base ≤ w.heap.size) : CanApp w base (.slice (some ⟨g, 0, none⟩) l.length l.length) l none :=
  fun W hW a m c news hm h0 hs hl => app_full (by rw [hW.block g (Array.getElem?_eq_some_iff.1 hg).1]; exact hg) hcur (Nat.le_trans hb hW.size) a m c news hm h0 hs hl
/-- Bytes that lie somewhere appended onto one's own. -/
theorem app_src {w : World} {base : Nat} {v : Value} {l : List UInt8} (ho : Out w base v l) (hl0 : 0 < l.length) (ad : Option Addr) (m c : Nat) (news : List UInt8) (hm : news.length = m) (hsrc : SrcOf w ad m (bcells news)) (hl : l.length + m ≤ 140737488355328) :
    ∃ v' w', (∀ ty, (Builtin.append_ #[25, 25] ty #[v, .slice ad m c]).run Tryd.prog w = .ok v' w') ∧ Out w' base v' (l ++ news) ∧ w.grownBy w' v.ownBlock := by
  cases ad with
  | some a =>
    refine app_bytes ho a m c news hm (fun j u hj => ?_) hl
    by_cases h0 : 0 < m
    · obtain ⟨b, o, e, _, hc⟩ := hsrc h0
      cases e
      rw [addr_add]
      exact hc j u hj
    · have : news = [] := List.eq_nil_of_length_eq_zero (by omega)
      rw [this] at hj
      simp [bcells] at hj
  | none =>
    have h0 : m = 0 := by
      by_cases h : 0 < m
      · obtain ⟨_, _, e, _⟩ := hsrc h
        cases e
      · omega
    subst h0
    have hn : news = [] := List.eq_nil_of_length_eq_zero (by omega)
    subst hn
    obtain ⟨i, hi, _, hz1, _⟩ := info_parts infoB
    rcases ho.1.2 with ⟨_, h⟩ | ⟨g, cap, cur, rfl, hb, hg, hnc, rest⟩
    · omega
    · refine ⟨_, w, fun ty => ?_, by simpa using ho, World.grownBy.refl w _⟩
      have := run_append_room_src (P := Tryd.prog) w 25 25 ty 5 i Tryd.underlying25 hi g 0 l.length cap (.slice none 0 c) 0 [] (Src.ofNil w Tryd.underlying25 c) (by omega) (by simp) (by simp)
      simpa [World.setCells] using this
theorem cell_of_block {w : World} {b i : Nat} {c : Array Value} {t : TypeId} {f : Nat × Nat} {v : Value} (h : w.heap[b]? = some (.cells c t f)) (hv : c[i]? = some v) : w.cell? ⟨b, i, none⟩ = some v := by
  unfold World.cell?
  simp only [h]
  exact hv
theorem oconv {w : World} {v : Value} {bs : List UInt8} (h : OBytes w v bs) : (convert 25 9 v).run Tryd.prog w = .ok (.string ⟨bs.toArray⟩) w := by
  obtain ⟨ad, cap, rfl, _, hc⟩ := h
  by_cases h0 : 0 < bs.length
  · obtain ⟨b, o, rfl, _, hcell⟩ := hc h0
    have hrun := run_convert_bytes_arg (P := Tryd.prog) w 25 5 Tryd.underlying25 Tryd.underlying5 b o bs.length cap (bs.map fun c => (c.toNat : Int)) (by simp) (fun i hi => by rw [hcell i hi]; simp [List.getD, hi]) 9 Tryd.underlying9
    have e : strOfNums (bs.map fun c => (c.toNat : Int)) = ⟨bs.toArray⟩ := by
      have hm : (bs.map fun c => (c.toNat : Int)).map (fun n : Int => UInt8.ofNat n.toNat) = bs := by
        rw [List.map_map]
        have : (bs.map ((fun n : Int => UInt8.ofNat n.toNat) ∘ fun c => (c.toNat : Int))) = bs.map id := List.map_congr_left (fun c _ => by simp)
        rw [this, List.map_id]
      unfold strOfNums
      rw [hm]
    rw [e] at hrun
    exact hrun
  · have hb : bs = [] := List.eq_nil_of_length_eq_zero (by omega)
    subst hb
    cases ad with
    | none => exact run_convert_bytes_nil (P := Tryd.prog) w 25 5 Tryd.underlying25 Tryd.underlying5 0 cap 9 Tryd.underlying9
    | some a =>
      show (convert 25 9 (.slice (some a) 0 cap)).run Tryd.prog w = _
      rw [run_convert_bytes_string w 25 9 5 _ 0 cap Tryd.underlying25 Tryd.underlying5 Tryd.underlying9]
      have hl : (loadCells a 0).run Tryd.prog w = .ok (([] : List Int).map (Value.int .u8)).toArray w := by
        have := run_loadCells_list (P := Tryd.prog) w a ([] : List Value) (fun j v hj => by simp at hj)
        simpa using this
      rw [run_bytesToString w a 0 cap [] hl]
      rfl
/-- Bytes that lie ahead of block Q. -/
def BSrc (w : World) (Q : Nat) (ad : Option Addr) (cap : Nat) (l : List UInt8) : Prop :=
  (ad = none ∧ cap = 0 ∧ l = []) ∨ (∃ a, ad = some a ∧ l.length ≤ cap ∧ (0 < l.length → ∃ b o, a = ⟨b, o, none⟩ ∧ b < Q ∧ ∀ i (h : i < l.length), w.cell? ⟨b, o + i, none⟩ = some (.int .u8 (l[i].toNat : Int))))
def RB (w : World) (Q : Nat) (v : Value) (l : List UInt8) : Prop := ∃ ad cap, v = .slice ad l.length cap ∧ BSrc w Q ad cap l
theorem BSrc.keep {w w' : World} {Q cap : Nat} {ad : Option Addr} {l : List UInt8} (h : BSrc w Q ad cap l) (hk : ∀ b, b < Q → w'.heap[b]? = w.heap[b]?) : BSrc w' Q ad cap l := by
  rcases h with h | ⟨a, rfl, hc, h⟩
  · exact .inl h
  · refine .inr ⟨a, rfl, hc, fun h0 => ?_⟩
    obtain ⟨b, o, rfl, hb, hcs⟩ := h h0
    exact ⟨b, o, rfl, hb, fun i hi => (World.cell?_of_block (w := w) (hk b hb)).trans (hcs i hi)⟩
theorem RB.keep {w w' : World} {Q : Nat} {v : Value} {l : List UInt8} (h : RB w Q v l) (hk : ∀ b, b < Q → w'.heap[b]? = w.heap[b]?) : RB w' Q v l := by
  obtain ⟨ad, cap, rfl, h⟩ := h
  exact ⟨ad, cap, rfl, h.keep hk⟩
theorem RB.bytes {w : World} {Q : Nat} {v : Value} {l : List UInt8} (h : RB w Q v l) (hQ : Q ≤ w.heap.size) (hl : l.length ≤ maxLen) : OBytes w v l := by
  obtain ⟨ad, cap, rfl, h⟩ := h
  refine ⟨ad, cap, rfl, hl, fun h0 => ?_⟩
  rcases h with ⟨_, _, rfl⟩ | ⟨a, rfl, _, h⟩
  · simp at h0
  · obtain ⟨b, o, rfl, hb, hcs⟩ := h h0
    exact ⟨b, o, rfl, Nat.lt_of_lt_of_le hb hQ, hcs⟩
theorem Out.rb {w : World} {base : Nat} {v : Value} {l : List UInt8} (h : Out w base v l) : RB w w.heap.size v l := by
  rcases h.1.2 with ⟨rfl, h0⟩ | ⟨g, cap, cur, rfl, _, hg, hnc, _⟩
  · exact ⟨none, 0, by rw [h0], .inl ⟨rfl, rfl, List.eq_nil_of_length_eq_zero h0⟩⟩
  · refine ⟨_, cap, rfl, .inr ⟨_, rfl, hnc, fun _ => ⟨g, 0, rfl, (Array.getElem?_eq_some_iff.1 hg).1, fun i hi => ?_⟩⟩⟩
    have := h.1.cells (g := g) rfl i (.int .u8 (l[i].toNat : Int)) (by simp [bcells, hi])
    rwa [addr_add] at this
theorem bnext {w w1 w2 : World} (h : Below w.heap.size w w1) (k : Below w1.heap.size w1 w2) : Below w.heap.size w w2 := h.trans (k.mono h.size)

end Go.Proofs.YtmbjahjkgjkbhaaDoor
