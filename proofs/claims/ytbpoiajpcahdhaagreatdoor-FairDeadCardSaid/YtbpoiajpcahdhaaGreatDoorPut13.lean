/- The contracts of asm's and Macro's smallest functions. Texts of tokens alone in memory, and Macro's Next, behind, head of them. Macro's head, behind and fault of texts of tokens alone. asm's items as values, and what makes them. asm's functions of a unit in memory. asm: the bytes of noughts. -/
import Derived.Test.YtbpoiajpcahdhaaGreatDoorPut2
import Derived.Test.YtbpoiajpcahdhaaGreatDoorPut8
import Derived.Deep.OwnRows
namespace Go.Proofs.YtbpoiajpcahdhaaGreatDoor
open Go.RowKit

/-- A token as one value. -/
def tokV (k n : Int) (t : ByteArray) : Value := .agg #[.int .i64 k, .int .i64 n, .string t]

theorem aword_any (k n : Int) (t : ByteArray) (w : World) : Calls Tryz.prog 86 #[tokV k n t] w fun r w' => r = .returned (.bool (k == 1)) ∧ Below w.heap.size w w' := by
  unfold tokV
  go_enter Tryz.func86, Tryz.ntmps86
  go_wp2
  go_ret
  exact ⟨rfl, oalloc w _⟩

theorem asign_any (k n : Int) (t s : ByteArray) (w : World) : Calls Tryz.prog 119 #[tokV k n t, .string s] w fun r w' => r = .returned (.bool (k == 3 && t.toList == s.toList)) ∧ Below w.heap.size w w' := by
  unfold tokV
  by_cases h : k = 3
  · subst h
    go_enter Tryz.func119, Tryz.ntmps119
    go_wp2
    go_ret
    exact ⟨ret_bool (by simp), oalloc w _⟩
  · go_enter Tryz.func119, Tryz.ntmps119
    go_wp2
    go_ret
    exact ⟨ret_bool (by simp [h]), oalloc w _⟩

theorem comma_any (k n : Int) (t : ByteArray) (w : World) : Calls Tryz.prog 148 #[tokV k n t] w fun r w' => r = .returned (.bool (k == 3 && t.toList == [44])) ∧ Below w.heap.size w w' := by
  unfold tokV
  by_cases h : k = 3
  · subst h
    go_enter Tryz.func148, Tryz.ntmps148
    go_wp2
    go_ret
    exact ⟨ret_bool (by simp), oalloc w _⟩
  · go_enter Tryz.func148, Tryz.ntmps148
    go_wp2
    go_ret
    exact ⟨ret_bool (by simp [h]), oalloc w _⟩

theorem away_any (s p q : Int) (w : World) (h0 : 0 ≤ p) (h1 : p ≤ 1000000) (h2 : -1000000000000 ≤ q) (h3 : q ≤ 1000000000000) : Calls Tryz.prog 226 #[.int .i64 s, .int .i64 p, .int .i64 q] w fun r w' => r = .returned (.tuple #[.int .i64 (awayU s p q).1, .int .i64 (awayU s p q).2]) ∧ w' = w := by
  by_cases h : s = 8
  · have e : awayU s p q = (q - (p + 4 - p % 4), 4) := by
      unfold awayU
      rw [if_pos h, Int.tmod_eq_emod_of_nonneg (by omega)]
      congr 1; omega
    rw [e]
    clear e
    subst h
    go_enter Tryz.func226, Tryz.ntmps226
    go_wp2
    go_ret2
    exact ⟨rfl, rfl⟩
  · have e : awayU s p q = (q - (p + 4), 2) := by
      unfold awayU
      rw [if_neg h]
    rw [e]
    clear e
    go_enter Tryz.func226, Tryz.ntmps226
    go_wp2
    go_ret2
    exact ⟨rfl, rfl⟩

end Go.Proofs.YtbpoiajpcahdhaaGreatDoor

namespace Go.Proofs.YtbpoiajpcahdhaaGreatDoor
open Go.RowKit

/-- A token. -/
structure Tk where
  k : Int
  n : Int
  t : ByteArray

def Tk.V (x : Tk) : Value := tokV x.k x.n x.t

/-- The slice v reads as parts that are tokens. -/
def PReads (w : World) (v : Value) (ts : List Tk) : Prop :=
  ∃ ad cap, v = .slice ad ts.length cap ∧ ts.length ≤ cap ∧ cap ≤ maxLen ∧ (0 < ts.length → ∃ b o, ad = some ⟨b, o, none⟩ ∧ b < w.heap.size ∧ ∀ i (h : i < ts.length),
    w.cell? ⟨b, o + i * 4, none⟩ = some (.int .i64 ts[i].k) ∧ w.cell? ⟨b, o + i * 4 + 1, none⟩ = some (.int .i64 ts[i].n) ∧ w.cell? ⟨b, o + i * 4 + 2, none⟩ = some (.string ts[i].t) ∧ w.cell? ⟨b, o + i * 4 + 3, none⟩ = some (.pointer none))

theorem PReads.below {w w' : World} {B : Nat} {v : Value} {ts : List Tk} (h : PReads w v ts) (hb : Below B w w') (hB : w.heap.size ≤ B) : PReads w' v ts := by
  obtain ⟨ad, cap, rfl, hc, hm, h⟩ := h
  refine ⟨ad, cap, rfl, hc, hm, fun h0 => ?_⟩
  obtain ⟨b, o, rfl, hlt, hcell⟩ := h h0
  refine ⟨b, o, rfl, Nat.lt_of_lt_of_le hlt hb.size, fun i hi => ?_⟩
  have := hcell i hi
  rw [hb.cell (by show b < B; omega), hb.cell (by show b < B; omega), hb.cell (by show b < B; omega), hb.cell (by show b < B; omega)]
  exact this

theorem PReads.nil (w : World) : PReads w (.slice none 0 0) [] := ⟨none, 0, rfl, Nat.le_refl _, Nat.zero_le _, fun h => by simp at h⟩

theorem next_nil (ad : Option Addr) (cap : Nat) (w : World) : Calls Tryz.prog 85 #[.slice ad 0 cap] w fun r w' => r = .returned (.tuple #[tokV 0 0 ⟨#[]⟩, .slice none 0 0]) ∧ Below w.heap.size w w' := by
  unfold tokV
  go_enter Tryz.func85, Tryz.ntmps85
  go_wp2
  exact bodyPost_ret (v := .tuple #[.agg #[.int .i64 0, .int .i64 0, .string ⟨#[]⟩], .slice none 0 0]) (by simp [results, Tryz.results85, go_sem]) rfl ⟨rfl, oalloc w _⟩

theorem next_cons (b o len cap : Nat) (k n : Int) (t : ByteArray) (w : World) (ad : Option Addr) (HA : Hid ((if cap = 0 then some (⟨b, o, none⟩ : Addr) else some ⟨b, o + 4, none⟩) = ad)) (_ : len ≤ cap) (_ : cap + 1 ≤ maxLen) (_ : b < w.heap.size)
    (c0 : w.cell? ⟨b, o, none⟩ = some (.int .i64 k)) (c1 : w.cell? ⟨b, o + 1, none⟩ = some (.int .i64 n)) (c2 : w.cell? ⟨b, o + 2, none⟩ = some (.string t)) (c3 : w.cell? ⟨b, o + 3, none⟩ = some (.pointer none)) :
    Calls Tryz.prog 85 #[.slice (some ⟨b, o, none⟩) (len + 1) (cap + 1)] w fun r w' => r = .returned (.tuple #[tokV k n t, .slice ad len cap]) ∧ Below w.heap.size w w' := by
  unfold tokV
  go_enter Tryz.func85, Tryz.ntmps85
  go_wp2
  go_region
  rw [HA.out]
  go_wp2
  exact bodyPost_ret (v := .tuple #[.agg #[.int .i64 k, .int .i64 n, .string t], .slice ad len cap]) (by simp [results, Tryz.results85, go_sem]) rfl ⟨rfl, (oalloc w _).drew⟩

/-- The first token of a text, and what is behind it. -/
def headT : List Tk → Tk
  | [] => ⟨0, 0, ⟨#[]⟩⟩
  | x :: _ => x

theorem next_any (v : Value) (ts : List Tk) (w : World) (h : PReads w v ts) :
    Calls Tryz.prog 85 #[v] w fun r w' => (∃ v', r = .returned (.tuple #[(headT ts).V, v']) ∧ PReads w v' ts.tail) ∧ Below w.heap.size w w' := by
  obtain ⟨ad, cap, rfl, hc, hm, h⟩ := h
  cases ts with
  | nil =>
    refine (next_nil ad cap w).mono ?_
    rintro e w' ⟨rfl, hb⟩
    exact ⟨⟨_, rfl, PReads.nil w⟩, hb⟩
  | cons x r =>
    obtain ⟨b, o, rfl, hlt, hcell⟩ := h (by simp)
    obtain ⟨cap, rfl⟩ : ∃ c, cap = c + 1 := ⟨cap - 1, by simp at hc; omega⟩
    have c := hcell 0 (by simp)
    simp only [Nat.zero_mul, Nat.add_zero, List.getElem_cons_zero] at c
    have hc' : r.length ≤ cap := by simpa using hc
    refine (next_cons b o r.length cap x.k x.n x.t w _ (Lib.hid rfl) hc' hm hlt c.1 c.2.1 c.2.2.1 c.2.2.2).mono ?_
    rintro e w' ⟨rfl, hb⟩
    refine ⟨⟨_, rfl, _, cap, rfl, hc', by omega, fun h0 => ?_⟩, hb⟩
    have h0' : 0 < r.length := h0
    refine ⟨b, o + 4, by rw [if_neg (by omega)], hlt, fun i hi => ?_⟩
    have hi' : i < r.length := hi
    have := hcell (i + 1) (by simp; omega)
    simp only [List.getElem_cons_succ] at this
    rw [show o + (i + 1) * 4 = o + 4 + i * 4 by omega] at this
    exact this

end Go.Proofs.YtbpoiajpcahdhaaGreatDoor

namespace Go.Proofs.YtbpoiajpcahdhaaGreatDoor
open Go.RowKit

theorem fault_any (v : Value) (p e : Int) (w : World) :
    Calls Tryz.prog 82 #[.agg #[v, .int .i64 p], .int .i64 e] w fun r w' => r = .returned (if e = 0 then .agg #[.int .i64 0, .int .i64 0] else .agg #[.int .i64 e, .int .i64 p]) ∧ Below w.heap.size w w' := by
  by_cases h : e = 0
  · subst h
    rw [if_pos rfl]
    go_enter Tryz.func82, Tryz.ntmps82
    go_wp2
    exact bodyPost_ret (v := .agg #[.int .i64 0, .int .i64 0]) (by simp [results, Tryz.results82, go_sem]) rfl ⟨rfl, (oalloc w _).alloc (oalloc w _).size _⟩
  · rw [if_neg h]
    go_enter Tryz.func82, Tryz.ntmps82
    go_wp2
    exact bodyPost_ret (v := .agg #[.int .i64 e, .int .i64 p]) (by simp [results, Tryz.results82, go_sem]) rfl ⟨rfl, (oalloc w _).alloc (oalloc w _).size _⟩

theorem head_nil (ad : Option Addr) (cap : Nat) (w : World) : Calls Tryz.prog 112 #[.slice ad 0 cap] w fun r w' => r = .returned (.string ⟨#[]⟩) ∧ Below w.heap.size w w' := by
  go_enter Tryz.func112, Tryz.ntmps112
  go_wp2
  go_ret
  exact ⟨rfl, Below.refl _ _⟩

theorem head_cons (b o len cap : Nat) (k n : Int) (t : ByteArray) (w : World)
    (_ : b < w.heap.size)
    (c0 : w.cell? ⟨b, o, none⟩ = some (.int .i64 k)) (c1 : w.cell? ⟨b, o + 1, none⟩ = some (.int .i64 n)) (c2 : w.cell? ⟨b, o + 2, none⟩ = some (.string t)) (c3 : w.cell? ⟨b, o + 3, none⟩ = some (.pointer none)) :
    Calls Tryz.prog 112 #[.slice (some ⟨b, o, none⟩) (len + 1) cap] w fun r w' => r = .returned (.string (if k = 1 then t else ⟨#[]⟩)) ∧ Below w.heap.size w w' := by
  by_cases h : k = 1
  · rw [if_pos h]
    go_enter Tryz.func112, Tryz.ntmps112
    go_wp2
    go_ret
    exact ⟨rfl, oalloc w _⟩
  · rw [if_neg h]
    have h1 : (k == 1) = false := by simp [h]
    go_enter Tryz.func112, Tryz.ntmps112
    go_wp2
    go_ret
    exact ⟨rfl, oalloc w _⟩

/-- A text's head. -/
def headS (ts : List Tk) : ByteArray := if (headT ts).k = 1 then (headT ts).t else ⟨#[]⟩

theorem head_any (v : Value) (ts : List Tk) (w : World) (h : PReads w v ts) :
    Calls Tryz.prog 112 #[v] w fun r w' => r = .returned (.string (headS ts)) ∧ Below w.heap.size w w' := by
  obtain ⟨ad, cap, rfl, hc, hm, h⟩ := h
  cases ts with
  | nil => exact head_nil ad cap w
  | cons x r =>
    obtain ⟨b, o, rfl, hlt, hcell⟩ := h (by simp)
    have c := hcell 0 (by simp)
    simp only [Nat.zero_mul, Nat.add_zero, List.getElem_cons_zero] at c
    exact head_cons b o r.length cap x.k x.n x.t w hlt c.1 c.2.1 c.2.2.1 c.2.2.2

end Go.Proofs.YtbpoiajpcahdhaaGreatDoor

namespace Go.Proofs.YtbpoiajpcahdhaaGreatDoor
open Go.RowKit

/-- An item as one value: its line, numbers, and two functions. -/
def itV (line size upTo align : Int) (far bytes : Value) : Value := .agg #[.int .i64 line, .int .i64 size, .int .i64 upTo, .int .i64 align, far, bytes]

theorem old2 (w : World) (a : Obj) {k : Nat} (h : k < w.heap.size) : (w.alloc a).heap[k]? = w.heap[k]? := Go.heap_alloc_old w a h
theorem new_at (w : World) (o : Obj) {k : Nat} (h : k = w.heap.size) : (w.alloc o).heap[k]? = some o := by subst h; exact heap_alloc_new w o

theorem plain_any (op n m imm : Int) (w : World) : Calls Tryz.prog 169 #[.agg #[.int .i64 op, .int .i64 n, .int .i64 m, .int .i64 imm]] w fun r w' =>
    (∃ g, r = .returned (itV 0 2 1 2 .nilFunc (.func (.func 203) #[] #[.pointer (some ⟨g, 0, none⟩)])) ∧ w.heap.size ≤ g ∧ w'.heap[g]? = some (.cells #[.int .i64 op, .int .i64 n, .int .i64 m, .int .i64 imm] 255 (0, 0))) ∧ Below w.heap.size w w' := by
  unfold itV
  go_enter Tryz.func169, Tryz.ntmps169
  go_wp2
  exact bodyPost_ret (v := .agg #[.int .i64 0, .int .i64 2, .int .i64 1, .int .i64 2, .nilFunc, .func (.func 203) #[] #[.pointer (some ⟨w.heap.size, 0, none⟩)]]) (by simp [results, Tryz.results169, go_sem]) rfl
    ⟨⟨_, rfl, Nat.le_refl _, by rw [old2 _ _ (by simp)]; exact heap_alloc_new w _⟩, (oalloc w _).alloc (oalloc w _).size _⟩

end Go.Proofs.YtbpoiajpcahdhaaGreatDoor

namespace Go.Proofs.YtbpoiajpcahdhaaGreatDoor
open Go.RowKit

/-- Nothing was asked for: no pool is laid. -/
theorem endPool_none (gu gp : Nat) (ad : Option Addr) (cap : Nat) (w : World) (hu : w.cell? ⟨gu, 5, none⟩ = some (.pointer (some ⟨gp, 0, none⟩))) (hp : w.cell? ⟨gp, 1, none⟩ = some (.slice ad 0 cap)) :
    Calls Tryz.prog 73 #[.pointer (some ⟨gu, 0, none⟩)] w fun r w' => r = .returned (.tuple #[]) ∧ w' = w := by
  go_enter Tryz.func73, Tryz.ntmps73
  go_wp2
  exact bodyPost_ret (v := .tuple #[]) (by simp [results, Tryz.results73, go_sem]) rfl ⟨rfl, rfl⟩

end Go.Proofs.YtbpoiajpcahdhaaGreatDoor

namespace Go.Proofs.YtbpoiajpcahdhaaGreatDoor
open Go.RowKit

theorem infoB : (Tryz.prog.info? 5).map (fun i => (i.zero, i.size, i.bytes)) = some (some (.int .u8 0), 1, 1) := by kernel_rfl
theorem makeB (n : Nat) (h : n ≤ 100000) (w : World) : (Instr.makeSlice 36 (.int .i64 (n : Int)) (.int .i64 (n : Int))).run Tryz.prog w = .ok (.slice (some ⟨w.heap.size, 0, none⟩) n n) (w.alloc (.cells (madeCells #[.int .u8 0] n) 5)) :=
  run_make_row' 36 5 (.int .u8 0) 1 (by kernel_rfl) infoB rfl .i64 .i64 n (by omega) (by omega) w

theorem noughts1_any (p : Int) (n : Nat) (w : World) (h : n ≤ 100000) :
    Calls Tryz.prog 129 #[.int .i64 p, .int .i64 n] w fun r w' => r = .returned (.tuple #[.slice (some ⟨w.heap.size, 0, none⟩) n n, .int .i64 0]) ∧ w' = w.alloc (.cells (madeCells #[.int .u8 0] n) 5) := by
  have hm := fun W => makeB n h W
  go_enter Tryz.func129, Tryz.ntmps129
  go_wp2
  go_ret2
  exact ⟨rfl, rfl⟩

end Go.Proofs.YtbpoiajpcahdhaaGreatDoor
