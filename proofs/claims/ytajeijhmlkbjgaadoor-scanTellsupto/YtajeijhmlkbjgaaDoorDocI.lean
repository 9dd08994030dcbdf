/- The document's own Lines: what its walk wants. -/
import Derived.Test.YtajeijhmlkbjgaaDoorLinesC
import Derived.Test.YtajeijhmlkbjgaaDoorDocF
namespace Go.Proofs.YtajeijhmlkbjgaaDoor
open Go.RowKit

theorem splitNL_hit : ∀ (m : Nat) (l : List UInt8), (∀ j, j < m → l[j]? ≠ some 10) → l[m]? = some 10 → splitNL l = l.take m :: splitNL (l.drop (m + 1))
  | _, [], _, h => by simp at h
  | 0, c :: r, _, h => by
    simp at h
    subst h
    simp [splitNL]
  | m + 1, c :: r, hn, h => by
    have hc : c ≠ 10 := by
      intro e
      exact hn 0 (by omega) (by simp [e])
    have ih := splitNL_hit m r (fun j hj => by have := hn (j + 1) (by omega); simpa using this) (by simpa using h)
    rw [splitNL, if_neg hc, ih]
    rfl
theorem splitNL_miss : ∀ (l : List UInt8), (∀ j, j < l.length → l[j]? ≠ some 10) → splitNL l = [l]
  | [], _ => rfl
  | c :: r, hn => by
    have hc : c ≠ 10 := by
      intro e
      exact hn 0 (by simp) (by simp [e])
    have ih := splitNL_miss r (fun j hj => by have := hn (j + 1) (by simpa using hj); simpa using this)
    rw [splitNL, if_neg hc, ih]

/-- The lines from a place on; none behind the end. -/
def restAt (bs : List UInt8) (f : Nat) : List (List UInt8) := if f ≤ bs.length then splitNL (bs.drop f) else []

/-- What holds at the loop's head: line n begins at f, and no line feed is from there to i. -/
structure LnAt (bs : List UInt8) (n f i : Nat) (ps : List (Ln × Value)) : Prop where
  few : ps.length ≤ f
  small : n ≤ f + 1
  le : f ≤ i
  none : ∀ j, f ≤ j → j < i → bs[j]? ≠ some 10
  ended : bs.length < i → f = i
  left : linesR 1 (splitNL bs) = addLn (ps.map (·.1)) (linesR n (restAt bs f))

theorem addLn_nil (X : Except (Int × Int) (List Ln)) : addLn [] X = X := by
  cases X <;> simp [addLn]

theorem lnAt_start (bs : List UInt8) : LnAt bs 1 0 0 [] := ⟨by simp, by omega, by omega, fun j _ h => by omega, fun _ => rfl, by simp [restAt, addLn_nil]⟩

theorem LnAt.on {bs : List UInt8} {n f i : Nat} {ps : List (Ln × Value)} (h : LnAt bs n f i ps) (hi : bs[i]? ≠ some 10) (hlt : i < bs.length) : LnAt bs n f (i + 1) ps :=
  ⟨h.few, h.small, by have := h.le; omega, fun j h1 h2 => by
    by_cases e : j = i
    · subst e; exact hi
    · exact h.none j h1 (by omega), fun h1 => by omega, h.left⟩

theorem LnAt.seg {bs : List UInt8} {n f i : Nat} {ps : List (Ln × Value)} (h : LnAt bs n f i ps) (hi : bs[i]? = some 10 ∨ i = bs.length) : restAt bs f = (bs.drop f).take (i - f) :: restAt bs (i + 1) := by
  have hle := h.le
  have hn : ∀ j, j < i - f → (bs.drop f)[j]? ≠ some 10 := by
    intro j hj
    rw [List.getElem?_drop]
    exact h.none _ (by omega) (by omega)
  unfold restAt
  rcases hi with hi | hi
  · have hlt : i < bs.length := (List.getElem?_eq_some_iff.1 hi).1
    rw [if_pos (by omega), if_pos (by omega), splitNL_hit (i - f) (bs.drop f) hn (by rw [List.getElem?_drop, show f + (i - f) = i by omega]; exact hi), List.drop_drop]
    congr 3
    omega
  · subst hi
    rw [if_pos hle, if_neg (by omega), splitNL_miss (bs.drop f) (by rw [List.length_drop]; exact hn), List.take_of_length_le (by rw [List.length_drop]; exact Nat.le_refl _)]

theorem LnAt.err {bs : List UInt8} {n f i : Nat} {ps : List (Ln × Value)} (h : LnAt bs n f i ps) (hi : bs[i]? = some 10 ∨ i = bs.length) (hb : bs.length ≤ 1200) (he : lineErr ((bs.drop f).take (i - f)) ≠ 0) :
    srcErr bs = lineErr ((bs.drop f).take (i - f)) ∧ srcAt bs = n ∧ srcList bs = [] := by
  refine src_no (src_few hb ?_)
  rw [h.left, h.seg hi, linesR_err he]
  rfl
theorem LnAt.skip {bs : List UInt8} {n f i : Nat} {ps : List (Ln × Value)} (h : LnAt bs n f i ps) (hi : bs[i]? = some 10 ∨ i = bs.length) (he : lineErr ((bs.drop f).take (i - f)) = 0) (hl : lineList ((bs.drop f).take (i - f)) = []) :
    LnAt bs (n + 1) (i + 1) (i + 1) ps := by
  have hle := h.le
  refine ⟨by have := h.few; omega, by have := h.small; omega, Nat.le_refl _, fun j h1 h2 => by omega, fun _ => rfl, ?_⟩
  have := h.left
  rw [h.seg hi] at this
  exact linesR_none this he hl
theorem LnAt.line {bs : List UInt8} {n f i : Nat} {ps : List (Ln × Value)} (h : LnAt bs n f i ps) (hi : bs[i]? = some 10 ∨ i = bs.length) (he : lineErr ((bs.drop f).take (i - f)) = 0) (hl : lineList ((bs.drop f).take (i - f)) ≠ []) (v : Value) :
    LnAt bs (n + 1) (i + 1) (i + 1) (ps ++ [(⟨n, lineList ((bs.drop f).take (i - f))⟩, v)]) := by
  have hle := h.le
  refine ⟨by have := h.few; simp; omega, by have := h.small; omega, Nat.le_refl _, fun j h1 h2 => by omega, fun _ => rfl, ?_⟩
  have := h.left
  rw [h.seg hi] at this
  rw [List.map_append]
  exact linesR_some this he hl
theorem LnAt.fin {bs : List UInt8} {n f i : Nat} {ps : List (Ln × Value)} (h : LnAt bs n f i ps) (hf : bs.length < f) (hb : bs.length ≤ 1200) : srcErr bs = 0 ∧ srcAt bs = 0 ∧ srcList bs = ps.map (·.1) := by
  refine src_ok (src_few hb ?_)
  rw [h.left]
  unfold restAt
  rw [if_neg (by omega)]
  simp [linesR, addLn]

theorem elem24 : Tryd.prog.underlying 24 = some (.slice (Tryd.prog.elem 24)) := by kernel_rfl
theorem size24 (w : World) : (sizeOf (Tryd.prog.elem 24)).run Tryd.prog w = .ok 1 w := by kernel_rfl

theorem slice_bytes (ad : Option Addr) (cap : Nat) (bs : List UInt8) (hcap : bs.length ≤ cap) (f i : Nat) (hfi : f ≤ i) (hi : i ≤ bs.length) :
    ∃ ad' cap', (∀ w, (Instr.slice 24 (.slice ad bs.length cap) (some (.int .i64 (f : Int))) (some (.int .i64 (i : Int))) none).run Tryd.prog w = .ok (.slice ad' (i - f) cap') w) ∧
      ∀ w, BReads w (.slice ad bs.length cap) bs → BReads w (.slice ad' (i - f) cap') ((bs.drop f).take (i - f)) := by
  refine ⟨if cap = f then ad else ad.map (·.add (f * 1)), cap - f, fun w => ?_, fun w h => ?_⟩
  · rw [run_slice_lh w 24 ad bs.length cap elem24 .i64 .i64 f i (by omega) (by omega) (by omega), size24]
    simp [Result.andThen, sliced]
  · obtain ⟨ad1, cap1, e, hm, hc⟩ := h
    injection e with e1 _ _
    subst e1
    have hlen : ((bs.drop f).take (i - f)).length = i - f := by simp; omega
    refine ⟨_, _, by rw [hlen], by rw [hlen]; omega, fun h0 => ?_⟩
    rw [hlen] at h0
    obtain ⟨b, o, rfl, hlt, hcell⟩ := hc (by omega)
    refine ⟨b, o + f, ?_, hlt, fun j hj => ?_⟩
    · rw [if_neg (by omega)]
      simp [Addr.add]
    · rw [hlen] at hj
      have := hcell (f + j) (by omega)
      rw [show o + f + j = o + (f + j) by omega, this]
      simp

end Go.Proofs.YtajeijhmlkbjgaaDoor
