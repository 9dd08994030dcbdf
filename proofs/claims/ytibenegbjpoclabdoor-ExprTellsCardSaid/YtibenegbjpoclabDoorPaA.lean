/- The table of package expr, its reader in memory, and the contracts of takeSign and takeKind. -/
import Derived.Test.YtibenegbjpoclabDoorExMem
import Derived.Laws.Rows
namespace Go.Proofs.YtibenegbjpoclabDoor
open Go.RowKit

/-- The columns of the table 'kinds'. -/
def kKids (k : Int) : Int := [0, 0, 0, 1, 1, 2, 2, 2, 2, 2, 2, 2].getD k.toNat 0
def kSign (k : Int) : List UInt8 := [[], [], [], [45], [126], [42], [43], [45], [60, 60], [62, 62], [38], [124]].getD k.toNat []
def kStr (k : Int) : Int := [0, 0, 0, 0, 0, 5, 4, 4, 3, 3, 2, 1].getD k.toNat 0
def kCells : Array Value := ((List.range 12).flatMap fun k => [.int .i64 (kKids k), .string ⟨(kSign k).toArray⟩, .int .i64 (kStr k)]).toArray

/-- The table lies in memory as the text lays it. -/
structure KLaid (w : World) : Prop where
  sz : 0 < w.heap.size
  blk : ∃ t fr, w.heap[0]? = some (.cells kCells t fr)
  k0 : ∀ s : Int, 0 ≤ s → s ≤ 11 → w.cell? ⟨0, s.toNat * 3, none⟩ = some (.int .i64 (kKids s))
  k1 : ∀ s : Int, 0 ≤ s → s ≤ 11 → w.cell? ⟨0, s.toNat * 3 + 1, none⟩ = some (.string ⟨(kSign s).toArray⟩)
  k2 : ∀ s : Int, 0 ≤ s → s ≤ 11 → w.cell? ⟨0, s.toNat * 3 + 2, none⟩ = some (.int .i64 (kStr s))

theorem KLaid.below {B : Nat} {w w' : World} (h : KLaid w) (hb : Below B w w') (hB : 0 < B) : KLaid w' where
  sz := Nat.lt_of_lt_of_le h.sz hb.size
  blk := by rw [hb.block 0 (by omega)]; exact h.blk
  k0 s a b := by rw [hb.cell (by exact hB)]; exact h.k0 s a b
  k1 s a b := by rw [hb.cell (by exact hB)]; exact h.k1 s a b
  k2 s a b := by rw [hb.cell (by exact hB)]; exact h.k2 s a b

theorem gtrans {a b c : World} {r : Option Nat} (h : a.grownBy b r) (k : b.grownBy c r) : a.grownBy c r :=
  ⟨k.os.trans h.os, k.tape.trans h.tape, k.output.trans h.output, Nat.le_trans h.size k.size, fun i hi hr => (k.block i (Nat.lt_of_lt_of_le hi h.size) hr).trans (h.block i hi hr)⟩
theorem gbelow {w w' : World} {B : Nat} (r : Option Nat) (h : Below B w w') (hB : w.heap.size ≤ B) : w.grownBy w' r :=
  ⟨h.os, h.tape, h.output, h.size, fun i hi _ => h.block i (by omega)⟩
theorem below_of {w w' : World} {r N : Nat} (h : w.grownBy w' (some r)) (hr : N ≤ r) (hN : N ≤ w.heap.size) : Below N w w' :=
  (Below.refl N w).grown h hN (by intro k hk; cases hk; exact hr)
theorem gset (w : World) (B o : Nat) (v : Value) : w.grownBy (w.setCell ⟨B, o, none⟩ v) (some B) :=
  ⟨rfl, rfl, rfl, by simp, fun _ _ hne => Below.heap_setCell _ _ _ _ (fun e => hne (by rw [e]))⟩

theorem KLaid.by {w w' : World} {r : Nat} (h : KLaid w) (hg : w.grownBy w' (some r)) (hr : 0 < r) : KLaid w' :=
  h.below (below_of hg (N := 1) hr h.sz) (by decide)

set_option maxRecDepth 100000 in
theorem kIndexAll (w : World) : ((List.range 12).map fun k : Nat => (Instr.index 82 (.agg kCells) (.int .i64 (k : Int))).run Tryd.prog w) = (List.range 12).map fun k : Nat => .ok (.agg #[.int .i64 (kKids k), .string ⟨(kSign k).toArray⟩, .int .i64 (kStr k)]) w := by kernel_rfl
theorem kIndex (k : Nat) (hk : k < 12) (w : World) : (Instr.index 82 (.agg kCells) (.int .i64 (k : Int))).run Tryd.prog w = .ok (.agg #[.int .i64 (kKids k), .string ⟨(kSign k).toArray⟩, .int .i64 (kStr k)]) w := by
  have h := congrArg (fun l => l[k]?) (kIndexAll w)
  simpa [hk] using h
theorem kSize : (Tryd.prog.info? 82).map (·.size) = some kCells.size := by kernel_rfl

/-- The reader at block B: tokens, of which c are read. -/
structure Rdr (w : World) (B : Nat) (ts : List Tok) (c : Nat) : Prop where
  le : c ≤ ts.length
  few : ts.length ≤ maxLen
  lt : B < w.heap.size
  cnt : w.cell? ⟨B, 1, none⟩ = some (.int .i64 c)
  fr : w.frozen? ⟨B, 1, none⟩ = false
  toks : ∃ ad cap, w.cell? ⟨B, 0, none⟩ = some (.slice ad ts.length cap) ∧ (0 < ts.length → ∃ b o, ad = some ⟨b, o, none⟩ ∧ b < B ∧ ∀ i (h : i < ts.length),
    w.cell? ⟨b, o + i * 3, none⟩ = some (.int .i64 ts[i].kind) ∧ w.cell? ⟨b, o + i * 3 + 1, none⟩ = some (.int .i64 ts[i].n) ∧ w.cell? ⟨b, o + i * 3 + 2, none⟩ = some (.string ⟨ts[i].text.toArray⟩))

theorem Rdr.keep {w w' : World} {B : Nat} {ts : List Tok} {c : Nat} (h : Rdr w B ts c) (hs : w.heap.size ≤ w'.heap.size) (hb : ∀ b, b ≤ B → w'.heap[b]? = w.heap[b]?) : Rdr w' B ts c := by
  have hc : ∀ b o, b ≤ B → w'.cell? ⟨b, o, none⟩ = w.cell? ⟨b, o, none⟩ := fun b o hl => World.cell?_of_block (w := w) (hb b hl)
  refine ⟨h.le, h.few, Nat.lt_of_lt_of_le h.lt hs, by rw [hc _ _ (Nat.le_refl _)]; exact h.cnt, (World.frozen?_of_block (w := w) (hb B (Nat.le_refl _))).trans h.fr, ?_⟩
  obtain ⟨ad, cap, h0, h1⟩ := h.toks
  refine ⟨ad, cap, by rw [hc _ _ (Nat.le_refl _)]; exact h0, fun hp => ?_⟩
  obtain ⟨b, o, e, hl, hcs⟩ := h1 hp
  refine ⟨b, o, e, hl, fun i hi => ?_⟩
  rw [hc _ _ (by omega), hc _ _ (by omega), hc _ _ (by omega)]
  exact hcs i hi
theorem Rdr.below {w w' : World} {B N : Nat} {ts : List Tok} {c : Nat} (h : Rdr w B ts c) (hb : Below N w w') (hN : B < N) : Rdr w' B ts c :=
  h.keep hb.size fun b hl => hb.block b (by omega)
theorem Rdr.set {w : World} {B : Nat} {ts : List Tok} {c : Nat} (h : Rdr w B ts c) (c' : Nat) (hc : c' ≤ ts.length) : Rdr (w.setCell ⟨B, 1, none⟩ (.int .i64 c')) B ts c' := by
  refine ⟨hc, h.few, by simpa using h.lt, World.cell?_setCell_same _ _ _ h.cnt, by rw [World.frozen?_setCell]; exact h.fr, ?_⟩
  obtain ⟨ad, cap, h0, h1⟩ := h.toks
  refine ⟨ad, cap, by rw [World.cell?_setCell_other _ _ _ _ (by intro e; cases e)]; exact h0, fun hp => ?_⟩
  obtain ⟨b, o, e, hl, hcs⟩ := h1 hp
  refine ⟨b, o, e, hl, fun i hi => ?_⟩
  have hne : ∀ j, (⟨B, 1, none⟩ : Addr) ≠ ⟨b, j, none⟩ := by intro j e; injection e with e1 _; omega
  rw [World.cell?_setCell_other _ _ _ _ (hne _), World.cell?_setCell_other _ _ _ _ (hne _), World.cell?_setCell_other _ _ _ _ (hne _)]
  exact hcs i hi

/-- Whether the next token is that sign. -/
def signIs (l : List Tok) (s : List UInt8) : Bool := match l with
  | [] => false
  | t :: _ => decide (t.kind = 3 ∧ t.text = s)

end Go.Proofs.YtibenegbjpoclabDoor
