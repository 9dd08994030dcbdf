/- Sources and their lines, as functions of lists of bytes; bytes in memory. -/
import Derived.Test.YtajeijhmlkbjgaaDoorPrintA
import Derived.Laws.BytesArg
import Derived.Lib.SplitLaws
namespace Go.Proofs.YtajeijhmlkbjgaaDoor
open Go.RowKit

/-- What stands between line feeds. -/
def splitNL : List UInt8 → List (List UInt8)
  | [] => [[]]
  | c :: r => if c = 10 then [] :: splitNL r else match splitNL r with
    | [] => [[c]]
    | x :: y => (c :: x) :: y

theorem splitNL_ne : ∀ l, splitNL l ≠ []
  | [] => by simp [splitNL]
  | c :: r => by
    unfold splitNL
    split
    · simp
    · split <;> simp

theorem index10_hit (r : List UInt8) : Lib.indexByte ((10 : UInt8) :: r) 10 = 0 := by simp [Lib.indexByte]

theorem splitK_eq : ∀ (l : List UInt8), Lib.splitK [10] 0 (l.count 10) l = splitNL l
  | [] => rfl
  | c :: r => by
    have ih := splitK_eq r
    have hge := Lib.indexByte_ge r 10
    by_cases hc : c = 10
    · subst hc
      rw [List.count_cons_self]
      unfold Lib.splitK splitNL
      simp only [Lib.index_one, index10_hit]
      simp [ih]
    · have hcnt : (c :: r).count 10 = r.count 10 := by rw [List.count_cons]; simp [hc]
      have hcb : (c == 10) = false := by simpa using hc
      rw [hcnt]
      unfold splitNL
      rw [if_neg hc, ← ih]
      cases hk : r.count 10 with
      | zero => simp [Lib.splitK]
      | succ k =>
        have hmem : 0 < r.count 10 := by omega
        have hne : Lib.indexByte r 10 ≠ -1 := by
          intro h
          have := Lib.indexByte_none h
          obtain ⟨i, hi, he⟩ := List.getElem_of_mem (List.count_pos_iff.1 hmem)
          exact this i (by rw [List.getElem?_eq_getElem hi, he])
        have h0 : 0 ≤ Lib.indexByte r 10 := by omega
        have hcons : Lib.indexByte (c :: r) 10 = Lib.indexByte r 10 + 1 := by
          simp only [Lib.indexByte, hcb, Bool.false_eq_true, if_false]
          rw [if_neg (by simpa using hne)]
        unfold Lib.splitK
        simp only [Lib.index_one, hcons]
        have e1 : (Lib.indexByte r 10 + 1 == -1) = false := by
          rw [beq_eq_false_iff_ne]; omega
        have e2 : (Lib.indexByte r 10 == -1) = false := by
          rw [beq_eq_false_iff_ne]; exact hne
        have e3 : (Lib.indexByte r 10 + 1).toNat = (Lib.indexByte r 10).toNat + 1 := by omega
        simp only [e1, e2, e3, Bool.false_eq_true, if_false, Nat.add_zero, List.take_succ_cons, List.length_singleton, List.drop_succ_cons]

structure Ln where
  pos : Int
  toks : List Tok

/-- The lines of a source from line n on, or the error of the first that has one, at its number. -/
def linesR : Nat → List (List UInt8) → Except (Int × Int) (List Ln)
  | _, [] => .ok []
  | n, l :: r => if lineErr l = 0 then
      match linesR (n + 1) r with
      | .error e => .error e
      | .ok ls => .ok (if lineList l = [] then ls else ⟨n, lineList l⟩ :: ls)
    else .error (lineErr l, n)

def srcLines (bs : List UInt8) : Except (Int × Int) (List Ln) := if 1200 < bs.length then .error (4, 0) else linesR 1 (splitNL bs)
def srcErr (bs : List UInt8) : Int := match srcLines bs with
  | .error e => e.1
  | .ok _ => 0
def srcAt (bs : List UInt8) : Int := match srcLines bs with
  | .error e => e.2
  | .ok _ => 0
def srcList (bs : List UInt8) : List Ln := match srcLines bs with
  | .error _ => []
  | .ok ls => ls

/-- The slice v reads as the bytes bs. -/
def BReads (w : World) (v : Value) (bs : List UInt8) : Prop :=
  ∃ ad cap, v = .slice ad bs.length cap ∧ bs.length ≤ maxLen ∧ (0 < bs.length → ∃ b o, ad = some ⟨b, o, none⟩ ∧ b < w.heap.size ∧ ∀ i (h : i < bs.length), w.cell? ⟨b, o + i, none⟩ = some (.int .u8 (bs[i].toNat : Int)))

theorem conv_bytes {w : World} {v : Value} {bs : List UInt8} (h : BReads w v bs) : (convert 24 9 v).run Tryd.prog w = .ok (.string ⟨bs.toArray⟩) w := by
  obtain ⟨ad, cap, rfl, _, hc⟩ := h
  by_cases h0 : 0 < bs.length
  · obtain ⟨b, o, rfl, _, hcell⟩ := hc h0
    have hrun := run_convert_bytes_arg (P := Tryd.prog) w 24 5 Tryd.underlying24 Tryd.underlying5 b o bs.length cap (bs.map fun c => (c.toNat : Int)) (by simp) (fun i hi => by rw [hcell i hi]; simp [List.getD, hi]) 9 Tryd.underlying9
    have e : strOfNums (bs.map fun c => (c.toNat : Int)) = ⟨bs.toArray⟩ := by
      have hm : (bs.map fun c => (c.toNat : Int)).map (fun n : Int => UInt8.ofNat n.toNat) = bs := by
        rw [List.map_map]
        have : (bs.map ((fun n : Int => UInt8.ofNat n.toNat) ∘ fun c => (c.toNat : Int))) = bs.map id := List.map_congr_left (fun c _ => by simp)
        rw [this, List.map_id]
      unfold strOfNums
      rw [hm]
    rw [e] at hrun
    exact hrun
  · have hb : bs = [] := List.eq_nil_of_length_eq_zero (by omega)
    subst hb
    cases ad with
    | none => exact run_convert_bytes_nil (P := Tryd.prog) w 24 5 Tryd.underlying24 Tryd.underlying5 0 cap 9 Tryd.underlying9
    | some a =>
      show (convert 24 9 (.slice (some a) 0 cap)).run Tryd.prog w = _
      rw [run_convert_bytes_string w 24 9 5 _ 0 cap Tryd.underlying24 Tryd.underlying5 Tryd.underlying9]
      have hl : (loadCells a 0).run Tryd.prog w = .ok (([] : List Int).map (Value.int .u8)).toArray w := by
        have := run_loadCells_list (P := Tryd.prog) w a ([] : List Value) (fun j v hj => by simp at hj)
        simpa using this
      rw [run_bytesToString w a 0 cap [] hl]
      rfl

end Go.Proofs.YtajeijhmlkbjgaaDoor
