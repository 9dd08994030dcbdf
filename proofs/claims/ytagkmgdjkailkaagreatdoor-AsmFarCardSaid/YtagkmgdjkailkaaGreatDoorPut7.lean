/- The document's table: what plref1.Rows makes, and what a look-up in it tells. Contracts of the document's own Range, Has. -/
import Derived.Test.YtagkmgdjkailkaaGreatDoorPut3
import Derived.MapFrom
import Derived.Carry
import Derived.OwnWalk
namespace Go.Proofs.YtagkmgdjkailkaaGreatDoor.Isa
open Go.RowKit Go.MapKept

/-- The third column: bits as a text. -/
def refBits (k : Int) : ByteArray := [⟨#[]⟩, ⟨#[48, 48, 48, 48, 48, 48, 48, 48, 48, 48, 48, 48, 49, 48, 48, 49]⟩, ⟨#[48, 48, 48, 48, 48, 48, 48, 48, 48, 48, 48, 48, 49, 48, 49, 49]⟩, ⟨#[49, 49, 49, 48, 110, 110, 110, 110, 105, 105, 105, 105, 105, 105, 105, 105]⟩, ⟨#[48, 49, 49, 49, 110, 110, 110, 110, 105, 105, 105, 105, 105, 105, 105, 105]⟩, ⟨#[48, 49, 49, 48, 110, 110, 110, 110, 109, 109, 109, 109, 48, 48, 49, 49]⟩, ⟨#[48, 48, 49, 49, 110, 110, 110, 110, 109, 109, 109, 109, 49, 49, 48, 48]⟩, ⟨#[48, 48, 49, 49, 110, 110, 110, 110, 109, 109, 109, 109, 49, 48, 48, 48]⟩, ⟨#[48, 48, 49, 48, 110, 110, 110, 110, 109, 109, 109, 109, 49, 48, 48, 49]⟩, ⟨#[48, 48, 49, 48, 110, 110, 110, 110, 109, 109, 109, 109, 49, 48, 49, 49]⟩, ⟨#[48, 48, 49, 48, 110, 110, 110, 110, 109, 109, 109, 109, 49, 48, 49, 48]⟩, ⟨#[48, 48, 49, 48, 110, 110, 110, 110, 109, 109, 109, 109, 49, 48, 48, 48]⟩, ⟨#[48, 48, 49, 49, 110, 110, 110, 110, 109, 109, 109, 109, 48, 48, 48, 48]⟩, ⟨#[48, 48, 49, 49, 110, 110, 110, 110, 109, 109, 109, 109, 48, 49, 49, 49]⟩, ⟨#[48, 49, 48, 48, 110, 110, 110, 110, 48, 48, 48, 48, 48, 48, 48, 48]⟩, ⟨#[48, 49, 48, 48, 110, 110, 110, 110, 48, 48, 48, 48, 48, 48, 48, 49]⟩, ⟨#[48, 49, 48, 48, 110, 110, 110, 110, 48, 48, 48, 49, 48, 48, 48, 48]⟩, ⟨#[49, 48, 48, 48, 49, 48, 48, 49, 105, 105, 105, 105, 105, 105, 105, 105]⟩, ⟨#[49, 48, 48, 48, 49, 48, 49, 49, 105, 105, 105, 105, 105, 105, 105, 105]⟩, ⟨#[49, 48, 49, 48, 105, 105, 105, 105, 105, 105, 105, 105, 105, 105, 105, 105]⟩, ⟨#[49, 48, 49, 49, 105, 105, 105, 105, 105, 105, 105, 105, 105, 105, 105, 105]⟩, ⟨#[48, 49, 48, 48, 110, 110, 110, 110, 48, 48, 49, 48, 49, 48, 49, 49]⟩, ⟨#[48, 49, 48, 48, 110, 110, 110, 110, 48, 48, 48, 48, 49, 48, 49, 49]⟩, ⟨#[49, 48, 48, 49, 110, 110, 110, 110, 105, 105, 105, 105, 105, 105, 105, 105]⟩, ⟨#[49, 49, 48, 49, 110, 110, 110, 110, 105, 105, 105, 105, 105, 105, 105, 105]⟩, ⟨#[48, 48, 49, 48, 110, 110, 110, 110, 109, 109, 109, 109, 48, 48, 49, 48]⟩, ⟨#[48, 49, 49, 48, 110, 110, 110, 110, 109, 109, 109, 109, 48, 48, 49, 48]⟩, (⟨#[49, 49, 48, 48, 48, 48, 49, 49, 105, 105, 105, 105, 105, 105, 105, 105]⟩ : ByteArray)].getD k.toNat ⟨#[]⟩
/-- A row of the document's table as a value; no row: empty. -/
def refTxt (k : Int) : ByteArray := if knownB k then refBits k else ⟨#[]⟩
def refRow (k : Int) : Value := .agg #[.string (infoName k), .int .i64 (infoShape k), .string (refTxt k)]
def entryN (i : Nat) : MapEntry := ⟨.int .i64 ((i : Int) + 1), refRow ((i : Int) + 1), i⟩
def entriesN (n : Nat) : Array MapEntry := ((List.range n).map entryN).toArray
/-- The map behind n inserts. -/
def mapOf (n : Nat) : Obj := .map (entriesN n) n

theorem entriesN_succ (n : Nat) : (entriesN n).push (entryN n) = entriesN (n + 1) := by
  simp [entriesN, List.range_succ]

theorem findNow_int (k : Int) (n : Nat) : Instr.findNow (.int .i64) (.int .i64 k) (entriesN n).toList 0 = some (if 1 ≤ k ∧ k ≤ n then some (k.toNat - 1, refRow k) else none) := by
  have hks : ∀ x ∈ (entriesN n).toList, IsKey (.int .i64) x.key := by
    intro x hx
    simp [entriesN] at hx
    obtain ⟨i, _, rfl⟩ := hx
    simp [entryN, IsKey]
  rcases findNow_spec (d := .int .i64) (k := .int .i64 k) (by simp [IsKey]) (entriesN n).toList 0 hks with ⟨h1, h2⟩ | ⟨j, e, h1, h2, h3⟩
  · rw [h1, if_neg]
    intro hc
    refine h2 (entryN (k.toNat - 1)) ?_ ?_
    · simp [entriesN]; exact ⟨k.toNat - 1, by omega, rfl⟩
    · simp [entryN]; omega
  · have hj : j < n ∧ e = entryN j := by
      by_cases hj : j < n
      · refine ⟨hj, ?_⟩
        simpa [entriesN, hj] using h2.symm
      · simp [entriesN, hj] at h2
    obtain ⟨hj, rfl⟩ := hj
    have hk : k = (j : Int) + 1 := by
      have := h3
      simp [entryN] at this
      omega
    subst hk
    rw [h1, if_pos (by omega)]
    simp [entryN]

theorem key_int (k : Int) : IsKey (.int .i64) (.int .i64 k) := by simp [IsKey]

theorem run_ins (w : World) (n : Nat) : (Instr.mapUpdate 57 (.map (some w.heap.size)) (.int .i64 ((n : Int) + 1)) (refRow ((n : Int) + 1))).run Tryz.prog (w.alloc (mapOf n)) = .ok () (w.alloc (mapOf (n + 1))) := by
  have hb : (w.alloc (mapOf n)).heap[w.heap.size]? = some (.map (entriesN n) n) := heap_alloc_new w _
  have hf := findNow_int ((n : Int) + 1) n
  rw [if_neg (by omega)] at hf
  simp [Instr.mapUpdate, run_underlying Tryz.underlying57, MapKept.run_getObj_map hb, MapKept.run_checkKey Tryz.underlying3 (key_int _), MapKept.run_findKey Tryz.underlying3 hf, MapKept.run_setObj_map _ hb, Result.andThen]
  show ({ w.alloc (mapOf n) with heap := (w.heap.push (mapOf n)).setIfInBounds w.heap.size _ } : World) = { w with heap := w.heap.push (mapOf (n + 1)) }
  have e : (entriesN n).push { key := .int .i64 ((n : Int) + 1), val := refRow ((n : Int) + 1), born := n } = entriesN (n + 1) := entriesN_succ n
  rw [e]
  have e2 : (w.heap.push (mapOf n)).setIfInBounds w.heap.size (.map (entriesN (n + 1)) (n + 1)) = w.heap.push (mapOf (n + 1)) := by
    apply Array.ext_getElem?
    intro i
    rw [Array.getElem?_setIfInBounds, Array.getElem?_push, Array.getElem?_push]
    by_cases h : i = w.heap.size
    · subst h; simp [mapOf]
    · rw [if_neg (by omega), if_neg h, if_neg h]
  rw [e2]
  rfl

/-- One more row is put into the map that the call has just made. -/
theorem wpList_ins (n : Nat) {ops : Array Oper} {rest : List Oper} {o : Oper} {a : Act} {w : World} {Q : Exit → Act → World → Prop} (hgd : o.guard = none) (m k x : Operand) (hop : o.op = .insert 57 m k x)
    (hm : a.eval m = .map (some w.heap.size)) (hk : a.eval k = .int .i64 ((n : Int) + 1)) (hx : a.eval x = refRow ((n : Int) + 1))
    (h : wpList Tryz.prog ops Q rest (a.put o.dst undef) (w.alloc (mapOf (n + 1)))) : wpList Tryz.prog ops Q (o :: rest) a (w.alloc (mapOf n)) := by
  refine wpList_plain hgd fun K hK => ?_
  have hrun := run_ins w n
  unfold Oper.wp
  simp [execOp, hop, hm, hk, hx, hrun, Result.andThen]
  exact hK _ _ h

theorem run_newMap (w : World) : (Instr.makeMap 57 none).run Tryz.prog w = .ok (.map (some w.heap.size)) (w.alloc (mapOf 0)) := by kernel_rfl

set_option maxHeartbeats 4000000 in
theorem rows_any (w : World) : Calls Tryz.prog 16 #[] w fun e w' => e = .returned (.map (some w.heap.size)) ∧ w' = w.alloc (mapOf 27) := by
  have hmm := run_newMap
  go_enter Tryz.func16, Tryz.ntmps16
  go_wp2_with (refine wpList_ins _ rfl _ _ _ rfl rfl rfl (by kernel_rfl) ?_)
  go_ret
  exact ⟨rfl, rfl⟩

theorem refRow_no {k : Int} (h : knownB k = false) : refRow k = .agg #[.string ⟨#[]⟩, .int .i64 0, .string ⟨#[]⟩] := by
  simp [refRow, infoName, infoShape, refTxt, h]

/-- What a look-up in the table tells. -/
theorem run_look (w : World) (g : Nat) (k : Int) (b : Bool) (hg : w.heap[g]? = some (mapOf 27)) :
    (Instr.lookup 57 (.map (some g)) (.int .i64 k) b).run Tryz.prog w = .ok (if b = true then .tuple #[refRow k, .bool (knownB k)] else refRow k) w := by
  have hb : w.heap[g]? = some (.map (entriesN 27) 27) := hg
  have hf := findNow_int k 27
  by_cases hk : 1 ≤ k ∧ k ≤ (27 : Nat)
  · rw [if_pos hk] at hf
    have hn : knownB k = true := by simp [knownB, withinB]; omega
    simp [Instr.lookup, run_underlying Tryz.underlying57, MapKept.run_getObj_map hb, MapKept.run_checkKey Tryz.underlying3 (key_int _), MapKept.run_findKey Tryz.underlying3 hf, Result.andThen, hn]
  · rw [if_neg hk] at hf
    have hn : knownB k = false := by simp [knownB, withinB]; omega
    simp [Instr.lookup, run_underlying Tryz.underlying57, MapKept.run_getObj_map hb, MapKept.run_checkKey Tryz.underlying3 (key_int _), MapKept.run_findKey Tryz.underlying3 hf, Result.andThen, hn, refRow_no hn]

theorem run_look_plain (w : World) (g : Nat) (k : Int) (hg : w.heap[g]? = some (mapOf 27)) : (Instr.lookup 57 (.map (some g)) (.int .i64 k) false).run Tryz.prog w = .ok (.agg #[.string (infoName k), .int .i64 (infoShape k), .string (refTxt k)]) w := by
  have := run_look w g k false hg
  simpa [refRow] using this

end Go.Proofs.YtagkmgdjkailkaaGreatDoor.Isa

namespace Go.Proofs.YtagkmgdjkailkaaGreatDoor.Isa
open Go.RowKit

theorem lay_else {s : Int} (h1 : s ≠ 1) (h4 : s ≠ 4) (h5 : s ≠ 5) (h7 : s ≠ 7) (h8 : s ≠ 8) (h11 : s ≠ 11) : layLow s = 0 ∧ layHigh s = 0 := by
  by_cases h : 0 ≤ s ∧ s ≤ 11
  · have : s = 0 ∨ s = 2 ∨ s = 3 ∨ s = 6 ∨ s = 9 ∨ s = 10 := by omega
    rcases this with rfl | rfl | rfl | rfl | rfl | rfl <;> decide
  · obtain ⟨_, _, e2, e3⟩ := lay_out h
    exact ⟨e2, e3⟩

theorem rRange_any (s : Int) (w : World) :
    Calls Tryz.prog 17 #[.int .i64 s] w fun e w' => e = .returned (.tuple #[.int .i64 (layLow s), .int .i64 (layHigh s)]) ∧ w' = w := by
  by_cases hs : s = 1 ∨ s = 4 ∨ s = 5 ∨ s = 7 ∨ s = 8 ∨ s = 11
  · rcases hs with rfl | rfl | rfl | rfl | rfl | rfl
    all_goals
      go_enter Tryz.func17, Tryz.ntmps17
      go_wp2
      go_ret2
      exact ⟨rfl, rfl⟩
  · have h1 : (s == 1) = false := beq_eq_false_iff_ne.2 (by omega)
    have h4 : (s == 4) = false := beq_eq_false_iff_ne.2 (by omega)
    have h5 : (s == 5) = false := beq_eq_false_iff_ne.2 (by omega)
    have h7 : (s == 7) = false := beq_eq_false_iff_ne.2 (by omega)
    have h8 : (s == 8) = false := beq_eq_false_iff_ne.2 (by omega)
    have h11 : (s == 11) = false := beq_eq_false_iff_ne.2 (by omega)
    obtain ⟨e1, e2⟩ := lay_else (s := s) (by omega) (by omega) (by omega) (by omega) (by omega) (by omega)
    rw [e1, e2]
    clear hs e1 e2
    go_enter Tryz.func17, Tryz.ntmps17
    go_wp2
    go_ret2
    exact ⟨rfl, rfl⟩

/-- Has a text this byte? -/
def hasB (s : ByteArray) (c : Int) : Bool := s.data.toList.any fun x => (x.toNat : Int) == c

theorem has_yes {s : ByteArray} {c : Int} {k : Nat} (hk : k < s.size) (h : ((s[k].toNat : Int) == c) = true) : hasB s c = true := by
  unfold hasB
  rw [List.any_eq_true]
  exact ⟨s[k], by rw [Array.mem_toList_iff]; exact Array.getElem_mem _, h⟩

theorem has_no {s : ByteArray} {c : Int} (h : ∀ j, (hj : j < s.size) → ¬ ((s[j].toNat : Int) = c)) : hasB s c = false := by
  unfold hasB
  rw [List.any_eq_false]
  intro x hx
  rw [Array.mem_toList_iff, Array.mem_iff_getElem] at hx
  obtain ⟨j, hj, rfl⟩ := hx
  intro e
  exact h j hj (beq_iff_eq.1 e)

theorem has_any (s : ByteArray) (c : Int) (w : World) (hs : s.size ≤ maxLen) :
    Calls Tryz.prog 31 #[.string s, .int .u8 c] w fun e w' => e = .returned (.bool (hasB s c)) ∧ w' = w := by
  unfold maxLen at hs
  go_enter Tryz.func31, Tryz.ntmps31
  go_wp2
  go_loop [8] (fun i => ∃ k : Nat, k ≤ s.size ∧ i = .int .i64 k ∧ Hid (∀ j, (hj : j < s.size) → j < k → ¬ ((s[j].toNat : Int) = c))) (fun i => s.size - (intOf i).toNat)
  case atStart => exact ⟨0, Nat.zero_le _, rfl, fun j _ h => by omega⟩
  case round =>
    obtain ⟨k, hk, rfl, HN⟩ := hrel
    by_cases hlt : k < s.size
    · go_wp2
      · have h : ((s[k].toNat : Int) == c) = true := by assumption
        have hh := has_yes hlt h
        go_ret
        exact ⟨ret_bool hh.symm, rfl⟩
      · have h : ((s[k].toNat : Int) == c) = false := by assumption
        refine ⟨⟨k + 1, by omega, by go_num, fun j hj hjk => ?_⟩, by simp [intOf]; omega⟩
        by_cases e : j = k
        · subst e; simpa using h
        · exact HN.out j hj (by omega)
    · have HH : Hid (hasB s c = false) := has_no fun j hj => HN.out j hj (by omega)
      go_wp2
      go_ret
      exact ⟨ret_bool HH.out.symm, rfl⟩

end Go.Proofs.YtagkmgdjkailkaaGreatDoor.Isa
