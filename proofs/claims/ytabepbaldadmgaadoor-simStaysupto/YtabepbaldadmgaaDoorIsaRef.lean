/- The document's table: what plref1.Rows makes, and what a look-up in it tells. -/
import Derived.Test.YtabepbaldadmgaaDoorIsaDec
import Derived.MapFrom
import Derived.Carry
import Derived.OwnWalk
namespace Go.Proofs.YtabepbaldadmgaaDoor.Isa
open Go.RowKit Go.MapKept

/-- The third column: bits as a text. -/
def refBits (k : Int) : ByteArray := [⟨#[]⟩, ⟨#[48, 48, 48, 48, 48, 48, 48, 48, 48, 48, 48, 48, 49, 48, 48, 49]⟩, ⟨#[48, 48, 48, 48, 48, 48, 48, 48, 48, 48, 48, 48, 49, 48, 49, 49]⟩, ⟨#[49, 49, 49, 48, 110, 110, 110, 110, 105, 105, 105, 105, 105, 105, 105, 105]⟩, ⟨#[48, 49, 49, 49, 110, 110, 110, 110, 105, 105, 105, 105, 105, 105, 105, 105]⟩, ⟨#[48, 49, 49, 48, 110, 110, 110, 110, 109, 109, 109, 109, 48, 48, 49, 49]⟩, ⟨#[48, 48, 49, 49, 110, 110, 110, 110, 109, 109, 109, 109, 49, 49, 48, 48]⟩, ⟨#[48, 48, 49, 49, 110, 110, 110, 110, 109, 109, 109, 109, 49, 48, 48, 48]⟩, ⟨#[48, 48, 49, 48, 110, 110, 110, 110, 109, 109, 109, 109, 49, 48, 48, 49]⟩, ⟨#[48, 48, 49, 48, 110, 110, 110, 110, 109, 109, 109, 109, 49, 48, 49, 49]⟩, ⟨#[48, 48, 49, 48, 110, 110, 110, 110, 109, 109, 109, 109, 49, 48, 49, 48]⟩, ⟨#[48, 48, 49, 48, 110, 110, 110, 110, 109, 109, 109, 109, 49, 48, 48, 48]⟩, ⟨#[48, 48, 49, 49, 110, 110, 110, 110, 109, 109, 109, 109, 48, 48, 48, 48]⟩, ⟨#[48, 48, 49, 49, 110, 110, 110, 110, 109, 109, 109, 109, 48, 49, 49, 49]⟩, ⟨#[48, 49, 48, 48, 110, 110, 110, 110, 48, 48, 48, 48, 48, 48, 48, 48]⟩, ⟨#[48, 49, 48, 48, 110, 110, 110, 110, 48, 48, 48, 48, 48, 48, 48, 49]⟩, ⟨#[48, 49, 48, 48, 110, 110, 110, 110, 48, 48, 48, 49, 48, 48, 48, 48]⟩, ⟨#[49, 48, 48, 48, 49, 48, 48, 49, 105, 105, 105, 105, 105, 105, 105, 105]⟩, ⟨#[49, 48, 48, 48, 49, 48, 49, 49, 105, 105, 105, 105, 105, 105, 105, 105]⟩, ⟨#[49, 48, 49, 48, 105, 105, 105, 105, 105, 105, 105, 105, 105, 105, 105, 105]⟩, ⟨#[49, 48, 49, 49, 105, 105, 105, 105, 105, 105, 105, 105, 105, 105, 105, 105]⟩, ⟨#[48, 49, 48, 48, 110, 110, 110, 110, 48, 48, 49, 48, 49, 48, 49, 49]⟩, ⟨#[48, 49, 48, 48, 110, 110, 110, 110, 48, 48, 48, 48, 49, 48, 49, 49]⟩, ⟨#[49, 48, 48, 49, 110, 110, 110, 110, 105, 105, 105, 105, 105, 105, 105, 105]⟩, ⟨#[49, 49, 48, 49, 110, 110, 110, 110, 105, 105, 105, 105, 105, 105, 105, 105]⟩, ⟨#[48, 48, 49, 48, 110, 110, 110, 110, 109, 109, 109, 109, 48, 48, 49, 48]⟩, ⟨#[48, 49, 49, 48, 110, 110, 110, 110, 109, 109, 109, 109, 48, 48, 49, 48]⟩, (⟨#[49, 49, 48, 48, 48, 48, 49, 49, 105, 105, 105, 105, 105, 105, 105, 105]⟩ : ByteArray)].getD k.toNat ⟨#[]⟩
/-- A row of the document's table as a value; no row: empty. -/
def refTxt (k : Int) : ByteArray := if knownB k then refBits k else ⟨#[]⟩
def refRow (k : Int) : Value := .agg #[.string (infoName k), .int .i64 (infoShape k), .string (refTxt k)]
def entryN (i : Nat) : MapEntry := ⟨.int .i64 ((i : Int) + 1), refRow ((i : Int) + 1), i⟩
def entriesN (n : Nat) : Array MapEntry := ((List.range n).map entryN).toArray
/-- The map behind n inserts. -/
def mapOf (n : Nat) : Obj := .map (entriesN n) n

theorem entriesN_succ (n : Nat) : (entriesN n).push (entryN n) = entriesN (n + 1) := by
  simp [entriesN, List.range_succ]

theorem findNow_int (k : Int) (n : Nat) : Instr.findNow (.int .i64) (.int .i64 k) (entriesN n).toList 0 = some (if 1 ≤ k ∧ k ≤ n then some (k.toNat - 1, refRow k) else none) := by
  have hks : ∀ x ∈ (entriesN n).toList, IsKey (.int .i64) x.key := by
    intro x hx
    simp [entriesN] at hx
    obtain ⟨i, _, rfl⟩ := hx
    simp [entryN, IsKey]
  rcases findNow_spec (d := .int .i64) (k := .int .i64 k) (by simp [IsKey]) (entriesN n).toList 0 hks with ⟨h1, h2⟩ | ⟨j, e, h1, h2, h3⟩
  · rw [h1, if_neg]
    intro hc
    refine h2 (entryN (k.toNat - 1)) ?_ ?_
    · simp [entriesN]; exact ⟨k.toNat - 1, by omega, rfl⟩
    · simp [entryN]; omega
  · have hj : j < n ∧ e = entryN j := by
      by_cases hj : j < n
      · refine ⟨hj, ?_⟩
        simpa [entriesN, hj] using h2.symm
      · simp [entriesN, hj] at h2
    obtain ⟨hj, rfl⟩ := hj
    have hk : k = (j : Int) + 1 := by
      have := h3
      simp [entryN] at this
      omega
    subst hk
    rw [h1, if_pos (by omega)]
    simp [entryN]

theorem key_int (k : Int) : IsKey (.int .i64) (.int .i64 k) := by simp [IsKey]

theorem run_ins (w : World) (n : Nat) : (Instr.mapUpdate 66 (.map (some w.heap.size)) (.int .i64 ((n : Int) + 1)) (refRow ((n : Int) + 1))).run Tryd.prog (w.alloc (mapOf n)) = .ok () (w.alloc (mapOf (n + 1))) := by
  have hb : (w.alloc (mapOf n)).heap[w.heap.size]? = some (.map (entriesN n) n) := heap_alloc_new w _
  have hf := findNow_int ((n : Int) + 1) n
  rw [if_neg (by omega)] at hf
  simp [Instr.mapUpdate, run_underlying Tryd.underlying66, MapKept.run_getObj_map hb, MapKept.run_checkKey Tryd.underlying3 (key_int _), MapKept.run_findKey Tryd.underlying3 hf, MapKept.run_setObj_map _ hb, Result.andThen]
  show ({ w.alloc (mapOf n) with heap := (w.heap.push (mapOf n)).setIfInBounds w.heap.size _ } : World) = { w with heap := w.heap.push (mapOf (n + 1)) }
  have e : (entriesN n).push { key := .int .i64 ((n : Int) + 1), val := refRow ((n : Int) + 1), born := n } = entriesN (n + 1) := entriesN_succ n
  rw [e]
  have e2 : (w.heap.push (mapOf n)).setIfInBounds w.heap.size (.map (entriesN (n + 1)) (n + 1)) = w.heap.push (mapOf (n + 1)) := by
    apply Array.ext_getElem?
    intro i
    rw [Array.getElem?_setIfInBounds, Array.getElem?_push, Array.getElem?_push]
    by_cases h : i = w.heap.size
    · subst h; simp [mapOf]
    · rw [if_neg (by omega), if_neg h, if_neg h]
  rw [e2]
  rfl

/-- One more row is put into the map that the call has just made. -/
theorem wpList_ins (n : Nat) {ops : Array Oper} {rest : List Oper} {o : Oper} {a : Act} {w : World} {Q : Exit → Act → World → Prop} (hgd : o.guard = none) (m k x : Operand) (hop : o.op = .insert 66 m k x)
    (hm : a.eval m = .map (some w.heap.size)) (hk : a.eval k = .int .i64 ((n : Int) + 1)) (hx : a.eval x = refRow ((n : Int) + 1))
    (h : wpList Tryd.prog ops Q rest (a.put o.dst undef) (w.alloc (mapOf (n + 1)))) : wpList Tryd.prog ops Q (o :: rest) a (w.alloc (mapOf n)) := by
  refine wpList_plain hgd fun K hK => ?_
  have hrun := run_ins w n
  unfold Oper.wp
  simp [execOp, hop, hm, hk, hx, hrun, Result.andThen]
  exact hK _ _ h

theorem run_newMap (w : World) : (Instr.makeMap 66 none).run Tryd.prog w = .ok (.map (some w.heap.size)) (w.alloc (mapOf 0)) := by kernel_rfl

set_option maxHeartbeats 4000000 in
theorem rows_any (w : World) : Calls Tryd.prog 30 #[] w fun e w' => e = .returned (.map (some w.heap.size)) ∧ w' = w.alloc (mapOf 27) := by
  have hmm := run_newMap
  go_enter Tryd.func30, Tryd.ntmps30
  go_wp2_with (refine wpList_ins _ rfl _ _ _ rfl rfl rfl (by kernel_rfl) ?_)
  go_ret
  exact ⟨rfl, rfl⟩

theorem zero26 (w : World) : (zeroValue 65).run Tryd.prog w = .ok (.agg #[.string ⟨#[]⟩, .int .i64 0, .string ⟨#[]⟩]) w := by kernel_rfl

theorem refRow_no {k : Int} (h : knownB k = false) : refRow k = .agg #[.string ⟨#[]⟩, .int .i64 0, .string ⟨#[]⟩] := by
  simp [refRow, infoName, infoShape, refTxt, h]

/-- What a look-up in the table tells. -/
theorem run_look (w : World) (g : Nat) (k : Int) (b : Bool) (hg : w.heap[g]? = some (mapOf 27)) :
    (Instr.lookup 66 (.map (some g)) (.int .i64 k) b).run Tryd.prog w = .ok (if b = true then .tuple #[refRow k, .bool (knownB k)] else refRow k) w := by
  have hb : w.heap[g]? = some (.map (entriesN 27) 27) := hg
  have hf := findNow_int k 27
  by_cases hk : 1 ≤ k ∧ k ≤ (27 : Nat)
  · rw [if_pos hk] at hf
    have hn : knownB k = true := by simp [knownB, withinB]; omega
    simp [Instr.lookup, run_underlying Tryd.underlying66, MapKept.run_getObj_map hb, MapKept.run_checkKey Tryd.underlying3 (key_int _), MapKept.run_findKey Tryd.underlying3 hf, Result.andThen, hn]
  · rw [if_neg hk] at hf
    have hn : knownB k = false := by simp [knownB, withinB]; omega
    simp [Instr.lookup, run_underlying Tryd.underlying66, MapKept.run_getObj_map hb, MapKept.run_checkKey Tryd.underlying3 (key_int _), MapKept.run_findKey Tryd.underlying3 hf, Result.andThen, hn, refRow_no hn]

theorem run_look_ok (w : World) (g : Nat) (k : Int) (hg : w.heap[g]? = some (mapOf 27)) : (Instr.lookup 66 (.map (some g)) (.int .i64 k) true).run Tryd.prog w = .ok (.tuple #[.agg #[.string (infoName k), .int .i64 (infoShape k), .string (refTxt k)], .bool (knownB k)]) w := by
  have := run_look w g k true hg
  simpa [refRow] using this
theorem run_look_plain (w : World) (g : Nat) (k : Int) (hg : w.heap[g]? = some (mapOf 27)) : (Instr.lookup 66 (.map (some g)) (.int .i64 k) false).run Tryd.prog w = .ok (.agg #[.string (infoName k), .int .i64 (infoShape k), .string (refTxt k)]) w := by
  have := run_look w g k false hg
  simpa [refRow] using this

end Go.Proofs.YtabepbaldadmgaaDoor.Isa
