/- asm: a line that begins with a label. -/
import Derived.Test.YtbpoiajpcahdhaaGreatDoorPut43
namespace Go.Proofs.YtbpoiajpcahdhaaGreatDoor
open Go.RowKit Go.Maps Go.MapKept

/-- The names of labels, as a row. -/
def nameC (l : List (List UInt8 × Nat)) : List Value := l.map fun a => .string ⟨a.1.toArray⟩
/-- Next of a text that lies in an elder world. -/
theorem next_at (v : Value) (ts : List Tk) (w0 w : World) (h : PReads w0 v ts) (hb : Below w0.heap.size w0 w) :
    Calls Tryz.prog 85 #[v] w fun r w' => (∃ v', r = .returned (.tuple #[(headT ts).V, v']) ∧ PReads w0 v' ts.tail) ∧ Below w.heap.size w w' := by
  obtain ⟨ad, cap, rfl, hc, hm, h⟩ := h
  cases ts with
  | nil =>
    refine (next_nil ad cap w).mono ?_
    rintro e w' ⟨rfl, hb⟩
    exact ⟨⟨_, rfl, PReads.nil w0⟩, hb⟩
  | cons x r =>
    obtain ⟨b, o, rfl, hlt, hcell⟩ := h (by simp)
    obtain ⟨cap, rfl⟩ : ∃ c, cap = c + 1 := ⟨cap - 1, by simp at hc; omega⟩
    have c := hcell 0 (by simp)
    simp only [Nat.zero_mul, Nat.add_zero, List.getElem_cons_zero] at c
    rw [← hb.cell (by exact hlt), ← hb.cell (by exact hlt), ← hb.cell (by exact hlt), ← hb.cell (by exact hlt)] at c
    have hc' : r.length ≤ cap := by simpa using hc
    refine (next_cons b o r.length cap x.k x.n x.t w _ (Lib.hid rfl) hc' hm (Nat.lt_of_lt_of_le hlt hb.size) c.1 c.2.1 c.2.2.1 c.2.2.2).mono ?_
    rintro e w' ⟨rfl, hb⟩
    refine ⟨⟨_, rfl, _, cap, rfl, hc', by omega, fun h0 => ?_⟩, hb⟩
    have h0' : 0 < r.length := h0
    refine ⟨b, o + 4, by rw [if_neg (by omega)], hlt, fun i hi => ?_⟩
    have hi' : i < r.length := hi
    have := hcell (i + 1) (by simp; omega)
    simp only [List.getElem_cons_succ] at this
    rw [show o + (i + 1) * 4 = o + 4 + i * 4 by omega] at this
    exact this

end Go.Proofs.YtbpoiajpcahdhaaGreatDoor
