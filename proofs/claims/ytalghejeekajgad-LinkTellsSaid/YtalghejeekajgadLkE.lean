/- The image while it is made: its box, and its own rows of bytes and of syms. -/
import Derived.Test.YtalghejeekajgadLkC
import Derived.Test.YtalghejeekajgadLkM
import Derived.Deep.Upon
namespace Go.Proofs.Ytalghejeekajgad
open Go.RowKit

/-- Bytes that lie anywhere appended onto one's own, also nothing onto nothing. -/
theorem app_obytes {w : World} {base : Nat} {v x : Value} {l news : List UInt8} (ho : Out w base v l) (hx : OBytes w x news) (hl : l.length + news.length ≤ 140737488355328) :
    ∃ v' w', (∀ ty, (Builtin.append_ #[22, 22] ty #[v, x]).run Try.prog w = .ok v' w') ∧ Out w' base v' (l ++ news) ∧ w.grownBy w' v.ownBlock := by
  obtain ⟨ad, cap, rfl, _, hc⟩ := hx
  by_cases h0 : 0 < news.length
  · obtain ⟨b, o, rfl, _, hcell⟩ := hc h0
    refine app_bytes ho ⟨b, o, none⟩ news.length cap news rfl (fun j u hj => ?_) hl
    rw [addr_add]
    simp only [bcells, List.getElem?_map, Option.map_eq_some_iff] at hj
    obtain ⟨c, hj, rfl⟩ := hj
    obtain ⟨hlt, rfl⟩ := List.getElem?_eq_some_iff.1 hj
    exact hcell j hlt
  · have hn : news = [] := List.eq_nil_of_length_eq_zero (by omega)
    subst hn
    obtain ⟨i, hi, _, hz1, _⟩ := info_parts infoB
    have key : ∃ a n c, v = .slice a n c ∧ n ≤ c := by
      rcases ho.1.2 with ⟨rfl, h⟩ | ⟨g, cap, cur, rfl, _, _, hnc, _⟩
      · exact ⟨none, 0, 0, rfl, Nat.le_refl _⟩
      · exact ⟨_, _, _, rfl, hnc⟩
    obtain ⟨a, n, c, rfl, hle⟩ := key
    refine ⟨_, w, fun ty => run_append_nothing (P := Try.prog) w 22 22 ty 5 i Try.underlying22 hi a n c hle _ ?_, by simpa using ho, World.grownBy.refl w _⟩
    cases ad with
    | none => exact Src.ofNil w Try.underlying22 cap
    | some ad => exact Src.ofSlice w Try.underlying22 ad 0 cap [] (by simp) (by simp) (by simp)

/-- A box of another type than a row's is another block. -/
theorem row_box {W W' : World} {base size m : Nat} {e : TypeId} {v : Value} {ys : List Value} (h : W.ownsRow base e size v m ys) (hg : W.grownBy W' v.ownBlock) {n : Nat} {c : Array Value} {t : TypeId} (hb : W.heap[n]? = some (.cells c t (0, 0))) (ht : t ≠ e) : W'.heap[n]? = some (.cells c t (0, 0)) := by
  rw [hg.block n (Array.getElem?_eq_some_iff.1 hb).1 ?_, hb]
  rcases h.2 with ⟨rfl, _⟩ | ⟨g, cap, cur, rfl, _, hgg, _⟩
  · simp [Value.ownBlock]
  · intro e0
    simp only [Value.ownBlock, Option.some.injEq] at e0
    subst e0
    rw [hb] at hgg
    injection hgg with hgg
    injection hgg with _ h2
    exact ht h2

/-- The image's box, and its rows; w1: the world that it was laid in. -/
structure LO (w1 W : World) (base : Int) (b : List UInt8) (s : List Sy) (bv sv : Value) : Prop where
  bel : Below w1.heap.size w1 W
  box : W.heap[w1.heap.size]? = some (.cells #[.int .i64 base, bv, sv] 38 (0, 0))
  by' : Out W (w1.heap.size + 1) bv b
  sy : W.ownsRow (w1.heap.size + 1) 49 2 sv s.length (scells s)

section
variable {w1 W W' : World} {base : Int} {b : List UInt8} {s : List Sy} {bv sv : Value}

theorem LO.new (w1 : World) (base : Int) : LO w1 (w1.alloc (.cells #[.int .i64 base, .slice none 0 0, .slice none 0 0] 38)) base [] [] (.slice none 0 0) (.slice none 0 0) :=
  ⟨oalloc _ _, blk_new _ _ _, ⟨World.ownsRow_nil _ _ _ _, by simp⟩, World.ownsRow_nil _ _ _ _⟩
theorem LO.size (h : LO w1 W base b s bv sv) : w1.heap.size + 1 ≤ W.heap.size := h.by'.2
theorem LO.go (h : LO w1 W base b s bv sv) (hb : Below W.heap.size W W') : LO w1 W' base b s bv sv := by
  have hz := h.size
  have hg : W.grownBy W' (some w1.heap.size) := ogbelow _ hb (Nat.le_refl _)
  exact ⟨h.bel.trans (hb.mono (by omega)), by rw [hb.block _ (by omega)]; exact h.box, h.by'.below hb (Nat.le_refl _), row_far h.sy (by omega) hg⟩
theorem LO.cells (h : LO w1 W base b s bv sv) : W.cell? ⟨w1.heap.size, 0, none⟩ = some (.int .i64 base) ∧ W.cell? ⟨w1.heap.size, 1, none⟩ = some bv ∧ W.cell? ⟨w1.heap.size, 2, none⟩ = some sv ∧
    W.frozen? ⟨w1.heap.size, 0, none⟩ = false ∧ W.frozen? ⟨w1.heap.size, 1, none⟩ = false ∧ W.frozen? ⟨w1.heap.size, 2, none⟩ = false :=
  ⟨blk_cell h.box rfl, blk_cell h.box rfl, blk_cell h.box rfl, blk_froz h.box, blk_froz h.box, blk_froz h.box⟩
/-- Bytes appended: the box is told of it behind. -/
theorem LO.appB (h : LO w1 W base b s bv sv) {x : Value} {news : List UInt8} (hx : OBytes W x news) (hl : b.length + news.length ≤ 140737488355328) :
    ∃ v' W', (∀ ty, (Builtin.append_ #[22, 22] ty #[bv, x]).run Try.prog W = .ok v' W') ∧ W'.cell? ⟨w1.heap.size, 1, none⟩ = some bv ∧ W'.frozen? ⟨w1.heap.size, 1, none⟩ = false ∧ W.heap.size ≤ W'.heap.size ∧ (∀ n c t, n ≠ w1.heap.size → W.heap[n]? = some (.cells c t (0, 0)) → t ≠ 5 → (W'.setCell ⟨w1.heap.size, 1, none⟩ v').heap[n]? = some (.cells c t (0, 0))) ∧
      LO w1 (W'.setCell ⟨w1.heap.size, 1, none⟩ v') base (b ++ news) s v' sv := by
  obtain ⟨v', W', hr, ho, hg⟩ := app_obytes h.by' hx hl
  have hz := h.size
  have hbox := h.by'.box hg h.box (by decide)
  refine ⟨v', W', hr, blk_cell hbox rfl, blk_froz hbox, hg.size, fun n c t hn hb ht => by rw [Below.heap_setCell _ _ _ _ hn]; exact h.by'.box hg hb ht, ?_, ?_, ⟨row_set ho.1 (by omega), by simpa using ho.2⟩, row_set (h.sy.kept hg (row_apart h.by'.1 h.sy (by decide))) (by omega)⟩
  · exact (h.by'.grown h.bel hg (by omega)).setCell (Nat.le_refl _) _
  · rw [_root_.Go.heap_setCell_same W' _ 1 _ _ v' hbox]; rfl
theorem LO.appS (h : LO w1 W base b s bv sv) (x : Sy) (g : Nat) (hgb : W.heap[g]? = some (.cells #[.string ⟨x.name.toArray⟩, .int .i64 x.pos] 49 (0, 0))) (hl : s.length ≤ 5000000000) :
    ∃ v' W', (∀ ty, (Builtin.append_ #[23, 23] ty #[sv, .slice (some ⟨g, 0, none⟩) 1 1]).run Try.prog W = .ok v' W') ∧ W'.cell? ⟨w1.heap.size, 2, none⟩ = some sv ∧ W'.frozen? ⟨w1.heap.size, 2, none⟩ = false ∧ W.grownBy W' sv.ownBlock ∧ (∀ n c t, n ≠ w1.heap.size → W.heap[n]? = some (.cells c t (0, 0)) → t ≠ 49 → (W'.setCell ⟨w1.heap.size, 2, none⟩ v').heap[n]? = some (.cells c t (0, 0))) ∧
      LO w1 (W'.setCell ⟨w1.heap.size, 2, none⟩ v') base b (s ++ [x]) bv v' := by
  have hz := h.size
  obtain ⟨v', W', hr, ho, hg⟩ := app_sym h.sy hz x g hgb hl
  have hfar : ∀ j, sv.ownBlock = some j → w1.heap.size + 1 ≤ j := fun j hj => (h.sy.lt j hj).1
  have hbox : W'.heap[w1.heap.size]? = some (.cells #[.int .i64 base, bv, sv] 38 (0, 0)) := by
    rw [hg.block _ (by omega) (fun e => by have := hfar _ e.symm; omega)]; exact h.box
  refine ⟨v', W', hr, blk_cell hbox rfl, blk_froz hbox, hg, fun n c t hn hb ht => by rw [Below.heap_setCell _ _ _ _ hn]; exact row_box h.sy hg hb ht, ?_, ?_, ⟨row_set (h.by'.1.kept hg (row_apart h.sy h.by'.1 (by decide))) (by omega), by have := hg.size; simp; omega⟩, row_set ho (by omega)⟩
  · exact (h.bel.grown hg (by omega) (fun j hj => by have := hfar j hj; omega)).setCell (Nat.le_refl _) _
  · rw [_root_.Go.heap_setCell_same W' _ 2 _ _ v' hbox]; rfl

/-- With an object's box. -/
structure LX (w1 W : World) (base : Int) (b : List UInt8) (s : List Sy) (bv sv : Value) (N : Nat) (c y r : Value) : Prop where
  lo : LO w1 W base b s bv sv
  ob : W.heap[N]? = some (.cells #[c, y, r] 26 (0, 0))
  far : w1.heap.size < N
variable {N : Nat} {c y r : Value}
theorem LX.lt (h : LX w1 W base b s bv sv N c y r) : N < W.heap.size := (Array.getElem?_eq_some_iff.1 h.ob).1
theorem LX.go (h : LX w1 W base b s bv sv N c y r) (hb : Below W.heap.size W W') : LX w1 W' base b s bv sv N c y r := ⟨h.lo.go hb, by rw [hb.block _ h.lt]; exact h.ob, h.far⟩
theorem LX.draws (h : LX w1 W base b s bv sv N c y r) (n : Nat) : LX w1 (W.drewN n) base b s bv sv N c y r := h.go (Go.Joins.below_draws _ _ _)
theorem LX.cells (h : LX w1 W base b s bv sv N c y r) : W.cell? ⟨N, 0, none⟩ = some c ∧ W.cell? ⟨N, 1, none⟩ = some y ∧ W.cell? ⟨N, 2, none⟩ = some r := ⟨blk_cell h.ob rfl, blk_cell h.ob rfl, blk_cell h.ob rfl⟩
theorem obytes_new (w : World) : OBytes (w.alloc (.cells #[.int .u8 0] 5)) (.slice (some ⟨w.heap.size, 0, none⟩) 1 1) [0] :=
  ⟨_, _, rfl, by simp [maxLen], fun _ => ⟨w.heap.size, 0, rfl, by simp, fun i hi => by
    have : i = 0 := by simpa using hi
    subst this
    rw [World.cell?_alloc_new]; rfl⟩⟩
end

/-- How many bytes are still to be laid ahead of an object. -/
def padM (W : World) (M P : Nat) : Nat := match W.cell? ⟨M, 1, none⟩ with
  | some (.slice _ n _) => P - n
  | _ => 0
theorem padM_eq {W : World} {M P n cap : Nat} {ad : Option Addr} (h : W.cell? ⟨M, 1, none⟩ = some (.slice ad n cap)) : padM W M P = P - n := by unfold padM; rw [h]

theorem wrongAt_none {nm : List UInt8 → Bool} : ∀ (l : List Ob) (i : Nat), wrongAt nm i l = none → ∀ o, o ∈ l → wrongO nm o = 0
  | [], _, _ => fun o ho => by cases ho
  | o :: r, i, h => by
    unfold wrongAt at h
    split at h
    · intro x hx
      rcases List.mem_cons.1 hx with rfl | hx
      · assumption
      · exact wrongAt_none r (i + 1) h x hx
    · cases h
theorem endL_le : ∀ (l : List Ob) (b : Int), (∀ o, o ∈ l → o.code.length ≤ 8000) → endL b l ≤ b + l.length * 8003
  | [], b, _ => by simp [endL]
  | o :: r, b, h => by
    have h1 := endL_le r (up4 b + o.code.length) (fun x hx => h x (List.mem_cons_of_mem _ hx))
    have h2 := h o List.mem_cons_self
    have h3 := up4_le b
    simp only [endL, List.length_cons]
    push_cast
    omega
theorem wrongO_few {nm : List UInt8 → Bool} {o : Ob} (h : wrongO nm o = 0) : o.code.length ≤ 8000 ∧ o.syms.length ≤ 255 ∧ o.rels.length ≤ 16000 := by
  unfold wrongO at h
  split at h
  · cases h
  · omega
theorem wrongO_syms {nm : List UInt8 → Bool} {o : Ob} (h : wrongO nm o = 0) : ∀ s, s ∈ o.syms → 0 ≤ s.pos ∧ s.pos ≤ 8000 := by
  have h1 := (wrongO_few h).1
  unfold wrongO at h
  split at h
  · cases h
  · split at h
    · rename_i _ hs
      intro s hm
      have := symsErr_ok _ _ hs s hm
      omega
    · contradiction
theorem ints_read {w : World} {B n : Nat} {v : Value} {xs : List Int} (h : w.ownsRow B 3 1 v n (icells xs)) (hn : 0 < n) (hx : xs.length = n) :
    ∃ g cap, v = .slice (some ⟨g, 0, none⟩) n cap ∧ g < w.heap.size ∧ ∀ i (hi : i < xs.length), w.cell? ⟨g, i, none⟩ = some (.int .i64 xs[i]) := by
  obtain ⟨_, h⟩ := h
  rcases h with ⟨_, h⟩ | ⟨g, cap, cur, rfl, _, hg, _, _, _, htk⟩
  · omega
  · refine ⟨g, cap, rfl, (Array.getElem?_eq_some_iff.1 hg).1, fun i hi => cell_of_block hg ?_⟩
    have h2 := congrArg (fun l => l[i]?) htk
    simp only [Nat.mul_one, List.getElem?_take_of_lt (show i < n by omega)] at h2
    simpa [icells, hi] using h2

end Go.Proofs.Ytalghejeekajgad
