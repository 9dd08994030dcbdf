/- The walk of ScanTells. -/
import Derived.Test.YtajeijhmlkbjgaaDoorDocG
import Derived.Test.YtajeijhmlkbjgaaDoorDocH
import Derived.Test.YtajeijhmlkbjgaaDoorDocJ
import Derived.Test.YtajeijhmlkbjgaaDoorLinesF
namespace Go.Proofs.YtajeijhmlkbjgaaDoor
open Go.RowKit

theorem lineList_len (l : List UInt8) : (lineList l).length ≤ 80 := by
  unfold lineList lineToks
  split
  · simp
  · cases h : toks (code l) with
    | none => simp
    | some ts =>
      have h1 := toks_count _ _ _ h
      have h2 := code_len l
      simp
      omega

theorem linesR_toks : ∀ (L : List (List UInt8)) (n : Nat) (ls : List Ln), linesR n L = .ok ls → ∀ l, l ∈ ls → l.toks.length ≤ 80
  | [], n, ls, h => by
    simp [linesR] at h
    subst h
    simp
  | x :: r, n, ls, h => by
    unfold linesR at h
    split at h
    · cases h1 : linesR (n + 1) r with
      | error e => rw [h1] at h; cases h
      | ok ys =>
        rw [h1] at h
        simp only [Except.ok.injEq] at h
        subst h
        intro l hl
        have ih := linesR_toks r (n + 1) ys h1
        split at hl
        · exact ih l hl
        · rcases List.mem_cons.1 hl with rfl | hl
          · exact lineList_len x
          · exact ih l hl
    · cases h

theorem src_toks (bs : List UInt8) : ∀ l, l ∈ srcList bs → l.toks.length ≤ 80 := by
  unfold srcList srcLines
  split
  · simp
  · rename_i ls h
    split at h
    · cases h
    · exact linesR_toks _ _ _ h
theorem src_len (bs : List UInt8) : (srcList bs).length ≤ 1201 := by
  by_cases h : bs.length ≤ 1200
  · exact linesR_len bs h
  · have hs : srcLines bs = .error (4, 0) := by unfold srcLines; rw [if_pos (by omega)]
    rw [(src_no hs).2.2]
    simp

theorem reads_lown {w : World} {base : Nat} {v : Value} {ps : List (Ln × Value)} (h : LOwn w base v ps) : LReads w v (ps.map (·.1)) :=
  reads_of_row h.row fun p hp => reads_of_owns (h.toks p hp)

theorem reads_own {w : World} {g : Nat} {ls : List Ln} (h : OwnPart w g ls ls.length) (hg : g < w.heap.size) (hn : ls.length ≤ 1201) (hT : ∀ l, l ∈ ls → l.toks.length ≤ 80) : LReads w (.slice (some ⟨g, 0, none⟩) ls.length ls.length) ls := by
  refine ⟨_, _, rfl, by unfold maxLen; omega, fun _ => ⟨g, 0, rfl, hg, fun i hi => ?_⟩⟩
  obtain ⟨x0, q, cap, cur, hq, x1, hblk, hcur⟩ := h.old i hi hi
  refine ⟨by rw [Nat.zero_add]; exact x0, _, by rw [Nat.zero_add]; exact x1, ?_⟩
  have hlt := (Array.getElem?_eq_some_iff.1 hblk).1
  refine ⟨_, cap, rfl, by have := hT ls[i] (List.getElem_mem hi); unfold maxLen; omega, fun _ => ⟨q, 0, rfl, hlt, fun j hj => ?_⟩⟩
  have hc : ∀ k v, (tcells ls[i].toks)[k]? = some v → w.cell? ⟨q, k, none⟩ = some v := by
    intro k v hk
    rw [← hcur] at hk
    unfold World.cell?
    simp only [hblk]
    simpa using hk
  have ha := tcells_at ls[i].toks j hj
  rw [Nat.zero_add]
  exact ⟨hc _ _ ha.1, hc _ _ ha.2.1, hc _ _ ha.2.2⟩

end Go.Proofs.YtajeijhmlkbjgaaDoor
