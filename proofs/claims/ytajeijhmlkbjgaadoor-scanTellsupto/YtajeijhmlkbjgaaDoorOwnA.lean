/- Lines in memory, and the contract of scan's Own. -/
import Derived.Test.YtajeijhmlkbjgaaDoorLinesC
namespace Go.Proofs.YtajeijhmlkbjgaaDoor
open Go.RowKit

/-- The slice v reads as the lines ls. -/
def LReads (w : World) (v : Value) (ls : List Ln) : Prop :=
  ∃ ad cap, v = .slice ad ls.length cap ∧ ls.length ≤ maxLen ∧ (0 < ls.length → ∃ b o, ad = some ⟨b, o, none⟩ ∧ b < w.heap.size ∧ ∀ i (h : i < ls.length),
    w.cell? ⟨b, o + i * 2, none⟩ = some (.int .i64 ls[i].pos) ∧ ∃ tv, w.cell? ⟨b, o + i * 2 + 1, none⟩ = some tv ∧ TReads w tv ls[i].toks)

def zL : Array Value := #[.int .i64 0, .slice none 0 0]
def zT : Array Value := #[.int .i64 0, .int .i64 0, .string ⟨#[]⟩]

theorem make55 (n : Nat) (hn : n ≤ 8796093022208) (w : World) : (Instr.makeSlice 55 (.int .i64 (n : Int)) (.int .i64 (n : Int))).run Tryd.prog w = .ok (.slice (some ⟨w.heap.size, 0, none⟩) n n) (w.alloc (.cells (madeCells zL (n * 2)) 64)) := by
  obtain ⟨i, hi, hz0, hz1, hz2⟩ := info_parts info64
  have := run_make (P := Tryd.prog) w 55 64 i _ Tryd.underlying55 hi hz0 .i64 .i64 (n : Int) (n : Int) (by omega) (by omega) (by rw [hz2]; omega) (by omega)
  rw [hz1] at this
  exact this

theorem make49 (n : Nat) (hn : n ≤ 8796093022208) (w : World) : (Instr.makeSlice 49 (.int .i64 (n : Int)) (.int .i64 (n : Int))).run Tryd.prog w = .ok (.slice (some ⟨w.heap.size, 0, none⟩) n n) (w.alloc (.cells (madeCells zT (n * 3)) 84)) := by
  obtain ⟨i, hi, hz0, hz1, hz2⟩ := info_parts info84
  have := run_make (P := Tryd.prog) w 49 84 i _ Tryd.underlying49 hi hz0 .i64 .i64 (n : Int) (n : Int) (by omega) (by omega) (by rw [hz2]; omega) (by omega)
  rw [hz1] at this
  exact this

theorem size84 : (Tryd.prog.info? 84).map (·.size) = some 3 := by kernel_rfl

/-- Tokens copied into a row of just so many. -/
theorem run_copy3 (w : World) (ty : TypeId) (g n dCap sCap : Nat) (a : Addr) (cur : Array Value) (cs : List Value)
    (hg : w.heap[g]? = some (.cells cur 84 (0, 0))) (hn : cs.length = n * 3) (hcur : cur.size = n * 3)
    (hsrc : ∀ j v, cs[j]? = some v → w.cell? (a.add j) = some v) (h1 : ∀ v ∈ cs, v.oneCell' = true) :
    (Builtin.copy_ #[49, 49] ty #[.slice (some ⟨g, 0, none⟩) n dCap, .slice (some a) n sCap]).run Tryd.prog w = .ok (goInt n) (w.setRow g cs.toArray) := by
  have hl := run_loadCells_list (P := Tryd.prog) w a cs hsrc
  have hst := run_storeCells_at Tryd.prog g 0 84 cs 0 cur w hg (by omega) h1
  have hs := size84
  cases hq : Tryd.prog.info? 84 with
  | none => simp [hq] at hs
  | some i =>
    have hi : i.size = 3 := by simpa [hq] using hs
    have e : cur.toList.take (0 + 0) ++ cs ++ cur.toList.drop (0 + 0 + cs.length) = cs := by
      rw [List.drop_eq_nil_of_le (by simp; omega)]; simp
    rw [e] at hst
    have hmin : Nat.min n n = n := by simp
    simp [Builtin.copy_, run_underlying Tryd.underlying49, Builtin.lenOf, Builtin.firstCells, sizeOf, typeInfo, hq, hi, hmin, ← hn, hl, hst]

theorem run_copy3_none (w : World) (ty : TypeId) (dCap sCap : Nat) (d a : Option Addr) :
    (Builtin.copy_ #[49, 49] ty #[.slice d 0 dCap, .slice a 0 sCap]).run Tryd.prog w = .ok (goInt 0) w := by
  have hs := size84
  cases hq : Tryd.prog.info? 84 with
  | none => simp [hq] at hs
  | some i =>
    have hl : ∀ (x : Addr), (loadCells x 0).run Tryd.prog w = .ok #[] w := fun x => by simpa using run_loadCells_list (P := Tryd.prog) w x [] (by simp)
    cases d <;> cases a <;> simp [Builtin.copy_, run_underlying Tryd.underlying49, Builtin.lenOf, Builtin.firstCells, sizeOf, typeInfo, hq, storeCells, hl]

theorem madeL_at (n i : Nat) (h : i < n) : (madeCells zL (n * 2))[i * 2]? = some (.int .i64 0) ∧ (madeCells zL (n * 2))[i * 2 + 1]? = some (.slice none 0 0) := by
  unfold madeCells
  constructor
  · rw [Array.getElem?_map, Array.getElem?_range, if_pos (by omega)]
    simp [zL]
  · rw [Array.getElem?_map, Array.getElem?_range, if_pos (by omega)]
    have : (i * 2 + 1) % 2 = 1 := by omega
    simp [zL, this]

end Go.Proofs.YtajeijhmlkbjgaaDoor
