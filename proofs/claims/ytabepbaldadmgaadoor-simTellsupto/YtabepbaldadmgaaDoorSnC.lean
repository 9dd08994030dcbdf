/- How a machine lies that is written to: its box, its bytes, what it told. -/
import Derived.Test.YtabepbaldadmgaaDoorPut17
namespace Go.Proofs.YtabepbaldadmgaaDoor
open Go.RowKit Isa

def mcells (l : List UInt8) : List Value := l.map fun c => .int .u8 (c.toNat : Int)
def icells (l : List Int) : List Value := l.map fun c => .int .i64 c
theorem mcells_len (l : List UInt8) : (mcells l).length = l.length := by simp [mcells]
theorem icells_len (l : List Int) : (icells l).length = l.length * 1 := by simp [icells]
theorem mcells_one (l : List UInt8) : ∀ v ∈ mcells l, v.oneCell' = true := by
  intro v hv
  obtain ⟨c, _, rfl⟩ := List.mem_map.1 hv
  rfl
theorem icells_one (l : List Int) : ∀ v ∈ icells l, v.oneCell' = true := by
  intro v hv
  obtain ⟨c, _, rfl⟩ := List.mem_map.1 hv
  rfl

theorem addr_add (b o j : Nat) : (⟨b, o, none⟩ : Addr).add j = ⟨b, o + j, none⟩ := by unfold Addr.add; split <;> simp_all

/-- All blocks below K are as they were, but for two. -/
structure Kept (K g gb : Nat) (W W' : World) : Prop where
  os : W'.os = W.os
  tape : W'.tape = W.tape
  output : W'.output = W.output
  size : W.heap.size ≤ W'.heap.size
  block : ∀ q, q < K → q ≠ g → q ≠ gb → W'.heap[q]? = W.heap[q]?
theorem Kept.refl (K g gb : Nat) (W : World) : Kept K g gb W W := ⟨rfl, rfl, rfl, Nat.le_refl _, fun _ _ _ _ => rfl⟩
theorem Kept.trans {K g gb : Nat} {a b c : World} (h : Kept K g gb a b) (k : Kept K g gb b c) : Kept K g gb a c :=
  ⟨k.os.trans h.os, k.tape.trans h.tape, k.output.trans h.output, Nat.le_trans h.size k.size, fun q h1 h2 h3 => (k.block q h1 h2 h3).trans (h.block q h1 h2 h3)⟩
theorem Kept.of {K g gb B : Nat} {a b : World} (h : Below B a b) (hB : K ≤ B) : Kept K g gb a b := ⟨h.os, h.tape, h.output, h.size, fun q hq _ _ => h.block q (by omega)⟩
theorem Kept.below {K g gb B : Nat} {a b : World} (h : Kept K g gb a b) (h1 : B ≤ K) (h2 : B ≤ g) (h3 : B ≤ gb) : Below B a b := ⟨h.os, h.tape, h.output, h.size, fun q hq => h.block q (by omega) (by omega) (by omega)⟩
theorem Kept.cell {K gb : Nat} {a : World} (p : Addr) (v : Value) : Kept K p.block gb a (a.setCell p v) :=
  ⟨rfl, rfl, rfl, by simp [World.setCell], fun q _ h _ => Below.heap_setCell _ _ _ q h⟩
theorem Kept.row {K g gb : Nat} {a : World} (cs : Array Value) : Kept K g gb a (a.setRow gb cs) :=
  ⟨rfl, rfl, rfl, by simp [World.setRow], fun q _ _ h => setRow_other a gb q cs h⟩
theorem Kept.grown {K g gb : Nat} {a b : World} {r : Option Nat} (h : a.grownBy b r) (hK : K ≤ a.heap.size) (hr : ∀ k, r = some k → K ≤ k) : Kept K g gb a b :=
  ⟨h.os, h.tape, h.output, h.size, fun q hq _ _ => h.block q (by omega) (by intro e; have := hr q e.symm; omega)⟩

/-- The machine m lies in the box g, its bytes are the row gb; what it told is a row of its own, not below K. -/
structure MR (K g : Nat) (m : Ma) (gb bc : Nat) (sv : Value) (ta : Option Addr) (tc : Nat) (W : World) : Prop where
  b1 : W.heap[g]? = some (.cells (mC m (some ⟨gb, 0, none⟩) bc sv ta tc) 29 (0, 0))
  bb : W.heap[gb]? = some (.cells (mcells m.by').toArray 5 (0, 0))
  tt : W.ownsRow K 3 1 (.slice ta m.told.length tc) m.told.length (icells m.told)
  la : Laid W
  kz : K ≤ W.heap.size
  k2 : 1 < K
  g2 : 1 < g
  gb2 : 1 < gb

theorem MR.ne {K g : Nat} {m : Ma} {gb bc : Nat} {sv : Value} {ta : Option Addr} {tc : Nat} {W : World} (h : MR K g m gb bc sv ta tc W) : g ≠ gb := by
  intro e
  have h1 := h.b1
  rw [e, h.bb] at h1
  injection h1 with h1
  injection h1 with _ h2
  exact absurd h2 (by decide)
theorem own_ne {W : World} {base : Nat} {v : Value} {n : Nat} {xs : List Value} (h : W.ownsRow base 3 1 v n xs) {b : Nat} {c : Array Value} {t : TypeId} {f : Nat × Nat} (hb : W.heap[b]? = some (.cells c t f)) (ht : t ≠ 3) : v.ownBlock = none ∨ v.ownBlock ≠ some b := by
  rcases h.2 with ⟨rfl, _⟩ | ⟨g, cap, cur, rfl, _, hg, _⟩
  · exact Or.inl rfl
  · refine Or.inr fun e => ?_
    simp only [Value.ownBlock, Option.some.injEq] at e
    rw [← e, hg] at hb
    injection hb with hb
    injection hb with _ h2
    exact ht h2.symm
theorem grown_cell (W : World) (p : Addr) (v : Value) : W.grownBy (W.setCell p v) (some p.block) :=
  ⟨rfl, rfl, rfl, by simp [World.setCell], fun k _ hk => Below.heap_setCell _ _ _ k (fun e => hk (by rw [e]))⟩
theorem grown_row (W : World) (g : Nat) (cs : Array Value) : W.grownBy (W.setRow g cs) (some g) :=
  ⟨rfl, rfl, rfl, by simp [World.setRow], fun k _ hk => setRow_other W g k cs (fun e => hk (by rw [e]))⟩
theorem laid_kept {K g gb : Nat} {a b : World} (h : Laid a) (hk : Kept K g gb a b) (h1 : 1 < K) (h2 : 1 < g) (h3 : 1 < gb) : Laid b :=
  h.below (hk.below (B := 2) h1 h2 h3) (by omega)

section
variable {K g : Nat} {m : Ma} {gb bc : Nat} {sv : Value} {ta : Option Addr} {tc : Nat} {W : World}
theorem MR.next (h : MR K g m gb bc sv ta tc W) {W' : World} (hb : Below W.heap.size W W') : MR K g m gb bc sv ta tc W' :=
  ⟨(hb.block _ (Array.getElem?_eq_some_iff.1 h.b1).1).trans h.b1, (hb.block _ (Array.getElem?_eq_some_iff.1 h.bb).1).trans h.bb, h.tt.kept (ogbelow none hb (Nat.le_refl _)) (by cases (Value.slice ta m.told.length tc).ownBlock <;> simp), h.la.below hb h.la.sz, Nat.le_trans h.kz hb.size, h.k2, h.g2, h.gb2⟩
theorem MR.kn (h : MR K g m gb bc sv ta tc W) {W' : World} (hb : Below W.heap.size W W') : Kept K g gb W W' := Kept.of hb h.kz
theorem MR.set (h : MR K g m gb bc sv ta tc W) (k : Nat) (v : Value) (m' : Ma) (hm : (mC m (some ⟨gb, 0, none⟩) bc sv ta tc).setIfInBounds k v = mC m' (some ⟨gb, 0, none⟩) bc sv ta tc) (h1 : m'.by' = m.by') (h2 : m'.told = m.told) : MR K g m' gb bc sv ta tc (W.setCell ⟨g, k, none⟩ v) := by
  refine ⟨?_, ?_, ?_, ?_, ?_, h.k2, h.g2, h.gb2⟩
  · rw [_root_.Go.heap_setCell_same W g k _ 29 _ h.b1, hm]
  · rw [Below.heap_setCell _ _ _ _ (by exact fun e => h.ne e.symm), h1]
    exact h.bb
  · rw [h2]
    exact h.tt.kept (grown_cell W ⟨g, k, none⟩ v) (own_ne h.tt h.b1 (by decide))
  · exact laid_kept h.la (Kept.cell (K := K) (gb := gb) ⟨g, k, none⟩ v) h.k2 h.g2 h.gb2
  · simpa [World.setCell] using h.kz
theorem MR.reg (h : MR K g m gb bc sv ta tc W) (k : Nat) (hk : k < 16) (v : Int) : MR K g (setR m k v) gb bc sv ta tc (W.setCell ⟨g, k, none⟩ (.int .i64 v)) := h.set k _ _ (mC_set m _ bc sv ta tc k hk v) rfl rfl
theorem MR.flag (h : MR K g m gb bc sv ta tc W) (v : Bool) : MR K g { m with t := v } gb bc sv ta tc (W.setCell ⟨g, 16, none⟩ (.bool v)) := h.set 16 _ _ rfl rfl rfl
theorem MR.setpc (h : MR K g m gb bc sv ta tc W) (v : Int) : MR K g { m with pc := v } gb bc sv ta tc (W.setCell ⟨g, 17, none⟩ (.int .i64 v)) := h.set 17 _ _ rfl rfl rfl
theorem MR.setpr (h : MR K g m gb bc sv ta tc W) (v : Int) : MR K g { m with pr := v } gb bc sv ta tc (W.setCell ⟨g, 18, none⟩ (.int .i64 v)) := h.set 18 _ _ rfl rfl rfl
theorem MR.setst (h : MR K g m gb bc sv ta tc W) (v : Int) : MR K g { m with st := v } gb bc sv ta tc (W.setCell ⟨g, 23, none⟩ (.int .i64 v)) := h.set 23 _ _ rfl rfl rfl
theorem MR.brd (h : MR K g m gb bc sv ta tc W) : BRd W (some ⟨gb, 0, none⟩) m.by' := fun _ => by
  refine ⟨gb, 0, rfl, (Array.getElem?_eq_some_iff.1 h.bb).1, fun i hi => ?_⟩
  rw [Nat.zero_add]
  refine cell_of_block h.bb ?_
  simp [mcells, bsOf, hi, List.getD]
theorem MR.trd (h : MR K g m gb bc sv ta tc W) : TRd W ta m.told := fun h0 => by
  rcases h.tt.2 with ⟨h1, _⟩ | ⟨q, cap, cur, h1, _, hq, _⟩
  · simp only [Value.slice.injEq] at h1
    omega
  · simp only [Value.slice.injEq] at h1
    obtain ⟨rfl, _, _⟩ := h1
    refine ⟨q, 0, rfl, (Array.getElem?_eq_some_iff.1 hq).1, fun i hi => ?_⟩
    have := h.tt.cells (g := q) rfl i (.int .i64 (m.told.getD i 0)) (by simp [icells, hi, List.getD])
    rw [addr_add] at this
    exact this
theorem MR.rn (h : MR K g m gb bc sv ta tc W) (k : Nat) (hk : k < 16) : W.cell? ⟨g, k, none⟩ = some (.int .i64 (m.r k)) := cell_of_block (i := k) h.b1 (mC_reg m _ bc sv ta tc k hk)
theorem MR.cells (h : MR K g m gb bc sv ta tc W) : W.cell? ⟨g, 16, none⟩ = some (.bool m.t) ∧ W.cell? ⟨g, 17, none⟩ = some (.int .i64 m.pc) ∧ W.cell? ⟨g, 18, none⟩ = some (.int .i64 m.pr) ∧ W.cell? ⟨g, 19, none⟩ = some (.int .i64 m.base) ∧ W.cell? ⟨g, 20, none⟩ = some (.slice (some ⟨gb, 0, none⟩) m.by'.length bc) ∧ W.cell? ⟨g, 21, none⟩ = some sv ∧ W.cell? ⟨g, 22, none⟩ = some (.slice ta m.told.length tc) ∧ W.cell? ⟨g, 23, none⟩ = some (.int .i64 m.st) :=
  ⟨cell_of_block (i := 16) h.b1 rfl, cell_of_block (i := 17) h.b1 rfl, cell_of_block (i := 18) h.b1 rfl, cell_of_block (i := 19) h.b1 rfl, cell_of_block (i := 20) h.b1 rfl, cell_of_block (i := 21) h.b1 rfl, cell_of_block (i := 22) h.b1 rfl, cell_of_block (i := 23) h.b1 rfl⟩
theorem MR.fz (h : MR K g m gb bc sv ta tc W) (k : Nat) : W.frozen? ⟨g, k, none⟩ = false := blk_froz h.b1
theorem MR.lt (h : MR K g m gb bc sv ta tc W) : g < W.heap.size := (Array.getElem?_eq_some_iff.1 h.b1).1
theorem MR.keepSet (h : MR K g m gb bc sv ta tc W) {W' : World} (hb : Below W.heap.size W W') (k : Nat) (v : Value) : Kept K g gb W (W'.setCell ⟨g, k, none⟩ v) := (h.kn hb).trans (Kept.cell ⟨g, k, none⟩ v)
end

theorem Kept.mono {K K' g gb : Nat} {a b : World} (h : Kept K g gb a b) (hK : K' ≤ K) : Kept K' g gb a b := ⟨h.os, h.tape, h.output, h.size, fun q hq h1 h2 => h.block q (by omega) h1 h2⟩
theorem Kept.drew {K g gb : Nat} {a b : World} (h : Kept K g gb a b) : Kept K g gb a b.drew := h.trans (Kept.of ((Below.refl K b).drew) (Nat.le_refl _))

/-- What comes of a machine that is written to. -/
def PP (K' K g gb bc : Nat) (sv : Value) (m' : Ma) (W W' : World) : Prop := Kept K' g gb W W' ∧ ∃ ta' tc', MR K g m' gb bc sv ta' tc' W'
theorem PP.drew {K' K g gb bc : Nat} {sv : Value} {m' : Ma} {W W' : World} (h : PP K' K g gb bc sv m' W W') : PP K' K g gb bc sv m' W W'.drew := by
  obtain ⟨h1, ta, tc, h2⟩ := h
  exact ⟨h1.drew, ta, tc, h2.next (Below.refl _ _).drew⟩
theorem PP.weak {K' K'' K g gb bc : Nat} {sv : Value} {m' : Ma} {W W' : World} (h : PP K' K g gb bc sv m' W W') (hK : K'' ≤ K') : PP K'' K g gb bc sv m' W W' := ⟨h.1.mono hK, h.2⟩
theorem PP.of {K' K g gb bc : Nat} {sv : Value} {m : Ma} {ta : Option Addr} {tc : Nat} {W W' : World} (h : MR K g m gb bc sv ta tc W) (hb : Below W.heap.size W W') (hK : K' ≤ W.heap.size) : PP K' K g gb bc sv m W W' := ⟨Kept.of hb hK, ta, tc, h.next hb⟩
theorem PP.after {K' K g gb bc : Nat} {sv : Value} {m : Ma} {W X W' : World} (hb : Below W.heap.size W X) (h : PP X.heap.size K g gb bc sv m X W') (hK : K' ≤ W.heap.size) : PP K' K g gb bc sv m W W' := ⟨(Kept.of hb hK).trans (h.1.mono (Nat.le_trans hK hb.size)), h.2⟩
theorem PP.reg {K' K g gb bc : Nat} {sv : Value} {m : Ma} {W W' : World} (h : PP K' K g gb bc sv m W W') (k : Nat) (hk : k < 16) (v : Int) : PP K' K g gb bc sv (setR m k v) W (W'.setCell ⟨g, k, none⟩ (.int .i64 v)) := by
  obtain ⟨h1, ta, tc, h2⟩ := h
  exact ⟨h1.trans (Kept.cell ⟨g, k, none⟩ _), ta, tc, h2.reg k hk v⟩
theorem PP.flag {K' K g gb bc : Nat} {sv : Value} {m : Ma} {W W' : World} (h : PP K' K g gb bc sv m W W') (v : Bool) : PP K' K g gb bc sv { m with t := v } W (W'.setCell ⟨g, 16, none⟩ (.bool v)) := by
  obtain ⟨h1, ta, tc, h2⟩ := h
  exact ⟨h1.trans (Kept.cell ⟨g, 16, none⟩ _), ta, tc, h2.flag v⟩

theorem infoI : (Tryd.prog.info? 3).map (fun i => (i.zero, i.size, i.bytes)) = some (some (.int .i64 0), 1, 8) := by kernel_rfl
theorem row_form {W : World} {base : Nat} {v : Value} {n : Nat} {xs : List Value} (h : W.ownsRow base 3 1 v n xs) : ∃ ad cap, v = .slice ad n cap := by
  rcases h.2 with ⟨rfl, h0⟩ | ⟨g, cap, cur, rfl, _⟩
  · exact ⟨none, 0, by rw [h0]⟩
  · exact ⟨_, _, rfl⟩
/-- One number more is told. -/
theorem MR.app {K g : Nat} {m : Ma} {gb bc : Nat} {sv : Value} {ta : Option Addr} {tc : Nat} {W : World} (h : MR K g m gb bc sv ta tc W) (b : Nat) (x : Int) (hb : W.heap[b]? = some (.cells #[.int .i64 x] 3 (0, 0))) (hl : m.told.length ≤ 1000000000) :
    ∃ ta' tc' W', (∀ ty, (Builtin.append_ #[27, 27] ty #[.slice ta m.told.length tc, .slice (some ⟨b, 0, none⟩) 1 1]).run Tryd.prog W = .ok (.slice ta' (m.told.length + 1) tc') W') ∧ W.grownBy W' (Value.slice ta m.told.length tc).ownBlock ∧ W'.cell? ⟨g, 22, none⟩ = some (.slice ta m.told.length tc) ∧ W'.frozen? ⟨g, 22, none⟩ = false ∧
      Kept K g gb W (W'.setCell ⟨g, 22, none⟩ (.slice ta' (m.told.length + 1) tc')) ∧ MR K g { m with told := m.told ++ [x] } gb bc sv ta' tc' (W'.setCell ⟨g, 22, none⟩ (.slice ta' (m.told.length + 1) tc')) := by
  obtain ⟨i, hi, hz0, hz1, hz2⟩ := info_parts infoI
  have key := fun ty => run_append_own (P := Tryd.prog) W K 27 ty 3 i _ 1 8 Tryd.underlying27 hi hz0 hz1 hz2 rfl (by decide) (.slice ta m.told.length tc) m.told.length (icells m.told) h.tt ⟨b, 0, none⟩ 1 1 [.int .i64 x] rfl (fun j u hj => by
    have hj0 : j = 0 := by
      have := (List.getElem?_eq_some_iff.1 hj).1
      simpa using this
    subst hj0
    rw [addr_add]
    refine cell_of_block (i := 0) hb ?_
    simpa using hj) (by simp [Value.oneCell']) (by unfold maxLen; omega) (by omega) h.kz
  obtain ⟨v', W', hrun, hown, hgr, _⟩ := key 0
  obtain ⟨ta', tc', rfl⟩ := row_form hown
  have hrun' : ∀ ty, (Builtin.append_ #[27, 27] ty #[.slice ta m.told.length tc, .slice (some ⟨b, 0, none⟩) 1 1]).run Tryd.prog W = .ok (.slice ta' (m.told.length + 1) tc') W' := fun ty => by
    have e : (Builtin.append_ #[27, 27] ty #[.slice ta m.told.length tc, .slice (some ⟨b, 0, none⟩) 1 1]).run Tryd.prog W = (Builtin.append_ #[27, 27] 0 #[.slice ta m.told.length tc, .slice (some ⟨b, 0, none⟩) 1 1]).run Tryd.prog W := rfl
    rw [e, hrun]
  have hne : ∀ {q : Nat} {c : Array Value} {t : TypeId} {f : Nat × Nat}, W.heap[q]? = some (.cells c t f) → t ≠ 3 → W'.heap[q]? = some (.cells c t f) := fun {q c t f} hq ht => by
    rw [hgr.block q (Array.getElem?_eq_some_iff.1 hq).1 (by
      rcases own_ne h.tt hq ht with e | e
      · rw [e]; simp
      · exact fun e' => e e'.symm)]
    exact hq
  have g1 := hne h.b1 (by decide)
  have gb1 := hne h.bb (by decide)
  have hkept : Kept K g gb W W' := Kept.grown hgr h.kz (fun k hk => (h.tt.lt k hk).1)
  refine ⟨ta', tc', W', hrun', hgr, cell_of_block (i := 22) g1 rfl, blk_froz g1, hkept.trans (Kept.cell ⟨g, 22, none⟩ _), ?_⟩
  refine ⟨?_, ?_, ?_, ?_, ?_, h.k2, h.g2, h.gb2⟩
  · rw [_root_.Go.heap_setCell_same W' g 22 _ 29 _ g1]
    have e : (m.told ++ [x]).length = m.told.length + 1 := by simp
    unfold mC
    simp only [e]
    rfl
  · rw [Below.heap_setCell _ _ _ _ (by exact fun e => h.ne e.symm)]
    exact gb1
  · have e : (m.told ++ [x]).length = m.told.length + 1 := by simp
    have e2 : icells (m.told ++ [x]) = icells m.told ++ [.int .i64 x] := by simp [icells]
    show World.ownsRow _ K 3 1 (.slice ta' (m.told ++ [x]).length tc') (m.told ++ [x]).length (icells (m.told ++ [x]))
    rw [e, e2]
    exact hown.kept (grown_cell W' ⟨g, 22, none⟩ _) (own_ne hown g1 (by decide))
  · exact laid_kept h.la (hkept.trans (Kept.cell ⟨g, 22, none⟩ _)) h.k2 h.g2 h.gb2
  · have := h.kz
    have := hgr.size
    simp [World.setCell]
    omega

end Go.Proofs.YtabepbaldadmgaaDoor
