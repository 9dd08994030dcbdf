/- Tokens in memory, and the contract of the document's own SameTokens at equal lists. -/
import Derived.Test.YtajeijhmlkbjgaaDoorScanK
namespace Go.Proofs.YtajeijhmlkbjgaaDoor
open Go.RowKit

/-- The slice v reads as the tokens ts. -/
def TReads (w : World) (v : Value) (ts : List Tok) : Prop :=
  ∃ ad cap, v = .slice ad ts.length cap ∧ ts.length ≤ maxLen ∧ (0 < ts.length → ∃ b o, ad = some ⟨b, o, none⟩ ∧ b < w.heap.size ∧ ∀ i (h : i < ts.length),
    w.cell? ⟨b, o + i * 3, none⟩ = some (.int .i64 ts[i].kind) ∧ w.cell? ⟨b, o + i * 3 + 1, none⟩ = some (.int .i64 ts[i].n) ∧ w.cell? ⟨b, o + i * 3 + 2, none⟩ = some (.string ⟨ts[i].text.toArray⟩))

theorem tcells_length (ts : List Tok) : (tcells ts).length = ts.length * 3 := by
  induction ts with
  | nil => rfl
  | cons t r ih => simp [tcells, Tok.cells] at ih ⊢; omega

theorem tcells_at : ∀ (ts : List Tok) (i : Nat) (h : i < ts.length), (tcells ts)[i * 3]? = some (.int .i64 ts[i].kind) ∧ (tcells ts)[i * 3 + 1]? = some (.int .i64 ts[i].n) ∧ (tcells ts)[i * 3 + 2]? = some (.string ⟨ts[i].text.toArray⟩)
  | [], i, h => by simp at h
  | t :: r, 0, _ => ⟨rfl, rfl, rfl⟩
  | t :: r, i + 1, h => by
    have ih := tcells_at r i (by simpa using h)
    have e : tcells (t :: r) = [.int .i64 t.kind, .int .i64 t.n, .string ⟨t.text.toArray⟩] ++ tcells r := rfl
    rw [e]
    refine ⟨?_, ?_, ?_⟩
    · rw [List.getElem?_append_right (by simp; omega)]; simpa [Nat.add_mul] using ih.1
    · rw [List.getElem?_append_right (by simp; omega), show (i + 1) * 3 + 1 - [Value.int .i64 t.kind, .int .i64 t.n, .string ⟨t.text.toArray⟩].length = i * 3 + 1 by simp; omega]; exact ih.2.1
    · rw [List.getElem?_append_right (by simp; omega), show (i + 1) * 3 + 2 - [Value.int .i64 t.kind, .int .i64 t.n, .string ⟨t.text.toArray⟩].length = i * 3 + 2 by simp; omega]; exact ih.2.2

theorem reads_of_owns {w : World} {base : Nat} {v : Value} {ts : List Tok} (h : w.ownsRow base 84 3 v ts.length (tcells ts)) : TReads w v ts := by
  rcases h.2 with ⟨rfl, hn⟩ | ⟨g, cap, cur, rfl, _, hg, hle, hm, _⟩
  · exact ⟨none, 0, by rw [hn], by rw [hn]; exact Nat.zero_le _, fun h0 => by omega⟩
  · refine ⟨_, cap, rfl, Nat.le_trans hle hm, fun _ => ⟨g, 0, rfl, (Array.getElem?_eq_some_iff.1 hg).1, fun i hi => ?_⟩⟩
    have ha := tcells_at ts i hi
    have hadd : ∀ j, (⟨g, 0, none⟩ : Addr).add j = ⟨g, 0 + j, none⟩ := fun j => by unfold Addr.add; split <;> simp_all
    have x0 := h.cells rfl _ _ ha.1
    have x1 := h.cells rfl _ _ ha.2.1
    have x2 := h.cells rfl _ _ ha.2.2
    rw [hadd] at x0 x1 x2
    exact ⟨x0, x1, x2⟩

theorem TReads.below {w w' : World} {B : Nat} {v : Value} {ts : List Tok} (h : TReads w v ts) (hb : Below B w w') (hB : w.heap.size ≤ B) : TReads w' v ts := by
  obtain ⟨ad, cap, rfl, hm, hc⟩ := h
  refine ⟨ad, cap, rfl, hm, fun h0 => ?_⟩
  obtain ⟨b, o, rfl, hlt, hcell⟩ := hc h0
  refine ⟨b, o, rfl, Nat.lt_of_lt_of_le hlt hb.size, fun i hi => ?_⟩
  have := hcell i hi
  rw [hb.cell (by show b < B; omega), hb.cell (by show b < B; omega), hb.cell (by show b < B; omega)]
  exact this

theorem sameTokens_true (va vb : Value) (ts : List Tok) (w : World) (ha : TReads w va ts) (hb : TReads w vb ts) :
    Calls Tryd.prog 29 #[va, vb] w fun e w' => e = .returned (.bool true) ∧ Below w.heap.size w w' := by
  obtain ⟨ad, ca, rfl, hm, hca⟩ := ha
  obtain ⟨bd, cb, rfl, _, hcb⟩ := hb
  unfold maxLen at hm
  go_enter Tryd.func29, Tryd.ntmps29
  go_wp2
  go_loopw [13] (fun i wr => ∃ k : Nat, k ≤ ts.length ∧ i = .int .i64 k ∧ Below w.heap.size w wr) (fun i _ => ts.length - (intOf i).toNat)
  case atStart => exact ⟨0, Nat.zero_le _, rfl, Below.refl _ _⟩
  case round =>
    obtain ⟨k, hk, rfl, hB⟩ := hrel
    by_cases hlt : k < ts.length
    · have hk1 : (k : Int) < ts.length := by omega
      obtain ⟨b1, o1, rfl, hl1, hc1⟩ := hca (by omega)
      obtain ⟨b2, o2, rfl, hl2, hc2⟩ := hcb (by omega)
      obtain ⟨x0, x1, x2⟩ := hc1 k hlt
      obtain ⟨y0, y1, y2⟩ := hc2 k hlt
      rw [← hB.cell (by exact hl1)] at x0 x1 x2
      rw [← hB.cell (by exact hl2)] at y0 y1 y2
      have HB : Hid (Below w.heap.size w wr) := hB
      clear hc1 hc2 hca hcb hB
      generalize ts[k].kind = kd at *
      generalize ts[k].n = nn at *
      generalize ts[k].text = tx at *
      go_wp2
      go_quiet (fail)
      go_wp2
      exact ⟨⟨k + 1, by omega, by go_num, below_drewN HB.out nq⟩, by simp [intOf]; omega⟩
    · have hk1 : ¬ (k : Int) < ts.length := by omega
      go_wp2
      go_ret
      exact ⟨rfl, hB⟩

end Go.Proofs.YtajeijhmlkbjgaaDoor
