/- Macro's head, behind and fault of texts of tokens alone. asm's items as values, and what makes them. asm's functions of a unit in memory. Contracts of the library's functions, laid at this program's numbers. -/
import Derived.Test.YtagkmgdjkailkaaGreatDoorPut3
import Derived.Shelf.Strings.Builder1
import Derived.Shelf.Strings.BuilderF
import Derived.Shelf.Strings.BuilderK
import Derived.Shelf.Strconv.Itoa0
import Derived.Shelf.Strconv.Itoa1
import Derived.Shelf.LaysM
import Derived.Shelf.Strconv.Itoa2
import Derived.Shelf.Strconv.Itoa3
import Derived.Test.YtagkmgdjkailkaaGreatDoorProg
namespace Go.Proofs.YtagkmgdjkailkaaGreatDoor
open Go.RowKit

theorem behind_any (v : Value) (ts : List Tk) (w : World) (h : PReads w v ts) :
    Calls Tryz.prog 77 #[v] w fun r w' => (∃ v', r = .returned v' ∧ PReads w v' ts.tail) ∧ Below w.heap.size w w' := by
  have HN := Lib.hid (next_any v ts w h)
  unfold Tk.V tokV at HN
  clear h
  go_enter Tryz.func77, Tryz.ntmps77
  go_wp2_with (go_at_call 43; refine HN.out.mono ?_; clear HN; rintro e w1 ⟨⟨v', rfl, hv⟩, hb1⟩)
  go_ret
  exact ⟨⟨_, rfl, hv⟩, hb1.alloc hb1.size _⟩

theorem fault_any (v : Value) (p e : Int) (w : World) :
    Calls Tryz.prog 40 #[.agg #[v, .int .i64 p], .int .i64 e] w fun r w' => r = .returned (if e = 0 then .agg #[.int .i64 0, .int .i64 0] else .agg #[.int .i64 e, .int .i64 p]) ∧ Below w.heap.size w w' := by
  by_cases h : e = 0
  · subst h
    rw [if_pos rfl]
    go_enter Tryz.func40, Tryz.ntmps40
    go_wp2
    exact bodyPost_ret (v := .agg #[.int .i64 0, .int .i64 0]) (by simp [results, Tryz.results40, go_sem]) rfl ⟨rfl, (oalloc w _).alloc (oalloc w _).size _⟩
  · rw [if_neg h]
    go_enter Tryz.func40, Tryz.ntmps40
    go_wp2
    exact bodyPost_ret (v := .agg #[.int .i64 e, .int .i64 p]) (by simp [results, Tryz.results40, go_sem]) rfl ⟨rfl, (oalloc w _).alloc (oalloc w _).size _⟩

theorem head_nil (ad : Option Addr) (cap : Nat) (w : World) : Calls Tryz.prog 73 #[.slice ad 0 cap] w fun r w' => r = .returned (.string ⟨#[]⟩) ∧ Below w.heap.size w w' := by
  go_enter Tryz.func73, Tryz.ntmps73
  go_wp2
  go_ret
  exact ⟨rfl, Below.refl _ _⟩

theorem head_cons (b o len cap : Nat) (k n : Int) (t : ByteArray) (w : World)
    (_ : b < w.heap.size)
    (c0 : w.cell? ⟨b, o, none⟩ = some (.int .i64 k)) (c1 : w.cell? ⟨b, o + 1, none⟩ = some (.int .i64 n)) (c2 : w.cell? ⟨b, o + 2, none⟩ = some (.string t)) (c3 : w.cell? ⟨b, o + 3, none⟩ = some (.pointer none)) :
    Calls Tryz.prog 73 #[.slice (some ⟨b, o, none⟩) (len + 1) cap] w fun r w' => r = .returned (.string (if k = 1 then t else ⟨#[]⟩)) ∧ Below w.heap.size w w' := by
  by_cases h : k = 1
  · rw [if_pos h]
    go_enter Tryz.func73, Tryz.ntmps73
    go_wp2
    go_ret
    exact ⟨rfl, oalloc w _⟩
  · rw [if_neg h]
    have h1 : (k == 1) = false := by simp [h]
    go_enter Tryz.func73, Tryz.ntmps73
    go_wp2
    go_ret
    exact ⟨rfl, oalloc w _⟩

/-- A text's head. -/
def headS (ts : List Tk) : ByteArray := if (headT ts).k = 1 then (headT ts).t else ⟨#[]⟩

theorem head_any (v : Value) (ts : List Tk) (w : World) (h : PReads w v ts) :
    Calls Tryz.prog 73 #[v] w fun r w' => r = .returned (.string (headS ts)) ∧ Below w.heap.size w w' := by
  obtain ⟨ad, cap, rfl, hc, hm, h⟩ := h
  cases ts with
  | nil => exact head_nil ad cap w
  | cons x r =>
    obtain ⟨b, o, rfl, hlt, hcell⟩ := h (by simp)
    have c := hcell 0 (by simp)
    simp only [Nat.zero_mul, Nat.add_zero, List.getElem_cons_zero] at c
    exact head_cons b o r.length cap x.k x.n x.t w hlt c.1 c.2.1 c.2.2.1 c.2.2.2

end Go.Proofs.YtagkmgdjkailkaaGreatDoor

namespace Go.Proofs.YtagkmgdjkailkaaGreatDoor
open Go.RowKit

/-- An item as one value: its line, numbers, and two functions. -/
def itV (line size upTo align : Int) (far bytes : Value) : Value := .agg #[.int .i64 line, .int .i64 size, .int .i64 upTo, .int .i64 align, far, bytes]

theorem old2 (w : World) (a : Obj) {k : Nat} (h : k < w.heap.size) : (w.alloc a).heap[k]? = w.heap[k]? := Go.heap_alloc_old w a h
theorem new_at (w : World) (o : Obj) {k : Nat} (h : k = w.heap.size) : (w.alloc o).heap[k]? = some o := by subst h; exact heap_alloc_new w o

theorem noughts_any (n : Int) (w : World) : Calls Tryz.prog 48 #[.int .i64 n] w fun r w' => r = .returned (itV 0 0 n 1 .nilFunc (.func (.func 90) #[] #[])) ∧ Below w.heap.size w w' := by
  unfold itV
  go_enter Tryz.func48, Tryz.ntmps48
  go_wp2
  exact bodyPost_ret (v := .agg #[.int .i64 0, .int .i64 0, .int .i64 n, .int .i64 1, .nilFunc, .func (.func 90) #[] #[]]) (by simp [results, Tryz.results48, go_sem]) rfl ⟨rfl, oalloc w _⟩

theorem plain_any (op n m imm : Int) (w : World) : Calls Tryz.prog 133 #[.agg #[.int .i64 op, .int .i64 n, .int .i64 m, .int .i64 imm]] w fun r w' =>
    (∃ g, r = .returned (itV 0 2 1 2 .nilFunc (.func (.func 167) #[] #[.pointer (some ⟨g, 0, none⟩)])) ∧ w.heap.size ≤ g ∧ w'.heap[g]? = some (.cells #[.int .i64 op, .int .i64 n, .int .i64 m, .int .i64 imm] 37 (0, 0))) ∧ Below w.heap.size w w' := by
  unfold itV
  go_enter Tryz.func133, Tryz.ntmps133
  go_wp2
  exact bodyPost_ret (v := .agg #[.int .i64 0, .int .i64 2, .int .i64 1, .int .i64 2, .nilFunc, .func (.func 167) #[] #[.pointer (some ⟨w.heap.size, 0, none⟩)]]) (by simp [results, Tryz.results133, go_sem]) rfl
    ⟨⟨_, rfl, Nat.le_refl _, by rw [old2 _ _ (by simp)]; exact heap_alloc_new w _⟩, (oalloc w _).alloc (oalloc w _).size _⟩

theorem numberI_any (u : Addr) (size : Int) (nm : ByteArray) (n : Int) (w : World) : Calls Tryz.prog 49 #[.pointer (some u), .int .i64 size, .agg #[.string nm, .int .i64 n]] w fun r w' =>
    (∃ gu gs gv, r = .returned (itV 0 size 1 size .nilFunc (.func (.func 91) #[] #[.pointer (some ⟨gv, 0, none⟩), .pointer (some ⟨gs, 0, none⟩), .pointer (some ⟨gu, 0, none⟩)]))
      ∧ (w.heap.size ≤ gu ∧ w.heap.size ≤ gs ∧ w.heap.size ≤ gv)
      ∧ w'.heap[gu]? = some (.cells #[.pointer (some u)] 117 (0, 0)) ∧ w'.heap[gs]? = some (.cells #[.int .i64 size] 3 (0, 0)) ∧ w'.heap[gv]? = some (.cells #[.string nm, .int .i64 n] 134 (0, 0)))
    ∧ Below w.heap.size w w' := by
  unfold itV
  go_enter Tryz.func49, Tryz.ntmps49
  go_wp2
  refine bodyPost_ret (v := .agg #[.int .i64 0, .int .i64 size, .int .i64 1, .int .i64 size, .nilFunc, .func (.func 91) #[] #[.pointer (some ⟨w.heap.size + 1 + 1, 0, none⟩), .pointer (some ⟨w.heap.size + 1, 0, none⟩), .pointer (some ⟨w.heap.size, 0, none⟩)]]) (by simp [results, Tryz.results49, go_sem]) rfl
    ⟨⟨_, _, _, rfl, ⟨Nat.le_refl _, by omega, by omega⟩, ?_, ?_, ?_⟩, ?_⟩
  · rw [old2 _ _ (by simp; omega), old2 _ _ (by simp; omega), old2 _ _ (by simp)]; exact heap_alloc_new w _
  · rw [old2 _ _ (by simp), old2 _ _ (by simp)]
    exact new_at _ _ (by simp)
  · rw [old2 _ _ (by simp)]
    exact new_at _ _ (by simp)
  · exact (((oalloc w _).alloc (by simp) _).alloc (by simp; omega) _).alloc (by simp; omega) _

end Go.Proofs.YtagkmgdjkailkaaGreatDoor

namespace Go.Proofs.YtagkmgdjkailkaaGreatDoor
open Go.RowKit

/-- Nothing was asked for: no pool is laid. -/
theorem endPool_none (gu gp : Nat) (ad : Option Addr) (cap : Nat) (w : World) (hu : w.cell? ⟨gu, 5, none⟩ = some (.pointer (some ⟨gp, 0, none⟩))) (hp : w.cell? ⟨gp, 1, none⟩ = some (.slice ad 0 cap)) :
    Calls Tryz.prog 26 #[.pointer (some ⟨gu, 0, none⟩)] w fun r w' => r = .returned (.tuple #[]) ∧ w' = w := by
  go_enter Tryz.func26, Tryz.ntmps26
  go_wp2
  exact bodyPost_ret (v := .tuple #[]) (by simp [results, Tryz.results26, go_sem]) rfl ⟨rfl, rfl⟩

end Go.Proofs.YtagkmgdjkailkaaGreatDoor

namespace Go.Proofs
open Go.Shelf
def Tryz.lays166_ren : Go.Shelf.Ren := ⟨fun | 166 => 155 | 240 => 188 | 276 => 211 | n => n, fun | 0 => 0 | 3 => 3 | 4 => 4 | 5 => 5 | 9 => 9 | 20 => 20 | 37 => 24 | 70 => 234 | 72 => 236 | 75 => 187 | 80 => 151 | 164 => 309 | n => n, fun | n => n⟩
theorem Tryz.lays166 : Go.Proofs.Lays.n166 Tryz.prog Tryz.lays166_ren := {
  mixed := by kernel_rfl
  f166 := Tryz.func155.trans (congrArg some (by kernel_rfl))
  f240 := Tryz.func188.trans (congrArg some (by kernel_rfl))
  f276 := Tryz.func211.trans (congrArg some (by kernel_rfl))
  t0 := Tryz.underlying0
  a0 := Tryz.isAgg0
  z0 := Tryz.sizeOf0
  v0 := Tryz.zeroValue0
  t3 := Tryz.underlying3
  a3 := Tryz.isAgg3
  z3 := Tryz.sizeOf3
  v3 := Tryz.zeroValue3
  t4 := Tryz.underlying4
  a4 := Tryz.isAgg4
  z4 := Tryz.sizeOf4
  v4 := Tryz.zeroValue4
  t9 := Tryz.underlying9
  a9 := Tryz.isAgg9
  z9 := Tryz.sizeOf9
  v9 := Tryz.zeroValue9
  t20 := Tryz.underlying20
  a20 := Tryz.isAgg20
  z20 := Tryz.sizeOf20
  v20 := Tryz.zeroValue20
  t37 := Tryz.underlying24
  a37 := Tryz.isAgg24
  z37 := Tryz.sizeOf24
  v37 := Tryz.zeroValue24
  t70 := Tryz.underlying234
  a70 := Tryz.isAgg234
  z70 := Tryz.sizeOf234
  v70 := Tryz.zeroValue234
  t72 := Tryz.underlying236
  a72 := Tryz.isAgg236
  z72 := Tryz.sizeOf236
  v72 := Tryz.zeroValue236
  t75 := Tryz.underlying187
  a75 := Tryz.isAgg187
  z75 := Tryz.sizeOf187
  v75 := Tryz.zeroValue187
  t164 := Tryz.underlying309
  a164 := Tryz.isAgg309
  z164 := Tryz.sizeOf309
  v164 := Tryz.zeroValue309 }
theorem Tryz.Builder_Extra_166 : Builder.Extra Tryz.prog Tryz.lays166_ren := {
  sizeBuilder := by kernel_rfl
  liesBuilder := by kernel_rfl
  t5 := Tryz.underlying5
  a5 := Tryz.isAgg5
  z5 := Tryz.sizeOf5
  v5 := Tryz.zeroValue5
  infoByte := by kernel_rfl
  cellsByte := by kernel_rfl
  sizeByte := by kernel_rfl
  neB5 := by decide }
def Tryz.lays169_ren : Go.Shelf.Ren := ⟨fun | 169 => 156 | n => n, fun | 70 => 234 | 9 => 9 | 0 => 0 | 72 => 236 | 37 => 24 | 127 => 277 | 3 => 3 | 5 => 5 | n => n, fun | n => n⟩
theorem Tryz.lays169 : Go.Proofs.Lays.n169 Tryz.prog Tryz.lays169_ren := {
  mixed := by kernel_rfl
  f169 := Tryz.func156.trans (congrArg some (by kernel_rfl))
  t0 := Tryz.underlying0
  a0 := Tryz.isAgg0
  z0 := Tryz.sizeOf0
  v0 := Tryz.zeroValue0
  t3 := Tryz.underlying3
  a3 := Tryz.isAgg3
  z3 := Tryz.sizeOf3
  v3 := Tryz.zeroValue3
  t9 := Tryz.underlying9
  a9 := Tryz.isAgg9
  z9 := Tryz.sizeOf9
  v9 := Tryz.zeroValue9
  t37 := Tryz.underlying24
  a37 := Tryz.isAgg24
  z37 := Tryz.sizeOf24
  v37 := Tryz.zeroValue24
  t70 := Tryz.underlying234
  a70 := Tryz.isAgg234
  z70 := Tryz.sizeOf234
  v70 := Tryz.zeroValue234
  t72 := Tryz.underlying236
  a72 := Tryz.isAgg236
  z72 := Tryz.sizeOf236
  v72 := Tryz.zeroValue236
  t127 := Tryz.underlying277
  a127 := Tryz.isAgg277
  z127 := Tryz.sizeOf277
  v127 := Tryz.zeroValue277 }
theorem Tryz.Builder_Extra_169 : Builder.Extra Tryz.prog Tryz.lays169_ren := {
  sizeBuilder := by kernel_rfl
  liesBuilder := by kernel_rfl
  t5 := Tryz.underlying5
  a5 := Tryz.isAgg5
  z5 := Tryz.sizeOf5
  v5 := Tryz.zeroValue5
  infoByte := by kernel_rfl
  cellsByte := by kernel_rfl
  sizeByte := by kernel_rfl
  neB5 := by decide }
open Go.RowKit in
theorem Tryz.Builder_String_any_k (B b : Nat) (l : List UInt8) (w : World) (h : Lib.IsBuilderF 236 5 B b (Lib.byteCells l) w) (hBw : B ≤ w.heap.size) :
    Calls Tryz.prog 156 #[.pointer (some ⟨b, 0, none⟩)] w fun e w' => e = .returned (.string ⟨l.toArray⟩) ∧ (Lib.IsBuilderF 236 5 B b (Lib.byteCells l) w' ∧ Below B w w' ∧ Lib.OthersKept 5 (some b) w w') := Any.Builder_String_any_k Tryz.lays169 Tryz.Builder_Extra_169 B b l w h hBw
def Tryz.laysM171_ren : Go.Shelf.Ren := ⟨fun | 171 => 6 | 243 => 12 | 246 => 20 | 283 => 32 | 284 => 33 | 285 => 34 | 286 => 35 | 129 => 53 | 317 => 52 | 318 => 54 | 319 => 55 | 320 => 56 | 337 => 95 | 338 => 96 | n => n, fun | 3 => 3 | 9 => 9 | 2 => 2 | 4 => 4 | 171 => 96 | 0 => 0 | 53 => 97 | 37 => 24 | 5 => 5 | 173 => 100 | 212 => 139 | 51 => 140 | 20 => 20 | 213 => 141 | 46 => 142 | 232 => 214 | 233 => 215 | n => n, fun | 17 => 0 | 18 => 1 | 19 => 2 | n => n⟩
theorem Tryz.laysM171 : Go.Proofs.LaysM.n171 Tryz.prog Tryz.laysM171_ren := {
  mixed := by kernel_rfl
  f129 := Tryz.func53.trans (congrArg some (by kernel_rfl))
  f171 := Tryz.func6.trans (congrArg some (by kernel_rfl))
  f243 := Tryz.func12.trans (congrArg some (by kernel_rfl))
  f246 := Tryz.func20.trans (congrArg some (by kernel_rfl))
  f283 := Tryz.func32.trans (congrArg some (by kernel_rfl))
  f284 := Tryz.func33.trans (congrArg some (by kernel_rfl))
  f285 := Tryz.func34.trans (congrArg some (by kernel_rfl))
  f286 := Tryz.func35.trans (congrArg some (by kernel_rfl))
  f317 := Tryz.func52.trans (congrArg some (by kernel_rfl))
  f318 := Tryz.func54.trans (congrArg some (by kernel_rfl))
  f319 := Tryz.func55.trans (congrArg some (by kernel_rfl))
  f320 := Tryz.func56.trans (congrArg some (by kernel_rfl))
  f337 := Tryz.func95.trans (congrArg some (by kernel_rfl))
  f338 := Tryz.func96.trans (congrArg some (by kernel_rfl))
  t0 := Tryz.underlying0
  a0 := Tryz.isAgg0
  z0 := Tryz.sizeOf0
  v0 := Tryz.zeroValue0
  t2 := Tryz.underlying2
  a2 := Tryz.isAgg2
  z2 := Tryz.sizeOf2
  v2 := Tryz.zeroValue2
  t3 := Tryz.underlying3
  a3 := Tryz.isAgg3
  z3 := Tryz.sizeOf3
  v3 := Tryz.zeroValue3
  t4 := Tryz.underlying4
  a4 := Tryz.isAgg4
  z4 := Tryz.sizeOf4
  v4 := Tryz.zeroValue4
  t5 := Tryz.underlying5
  a5 := Tryz.isAgg5
  z5 := Tryz.sizeOf5
  v5 := Tryz.zeroValue5
  t9 := Tryz.underlying9
  a9 := Tryz.isAgg9
  z9 := Tryz.sizeOf9
  v9 := Tryz.zeroValue9
  t20 := Tryz.underlying20
  a20 := Tryz.isAgg20
  z20 := Tryz.sizeOf20
  v20 := Tryz.zeroValue20
  t37 := Tryz.underlying24
  a37 := Tryz.isAgg24
  z37 := Tryz.sizeOf24
  v37 := Tryz.zeroValue24
  t46 := Tryz.underlying142
  a46 := Tryz.isAgg142
  z46 := Tryz.sizeOf142
  v46 := Tryz.zeroValue142
  t51 := Tryz.underlying140
  a51 := Tryz.isAgg140
  z51 := Tryz.sizeOf140
  v51 := Tryz.zeroValue140
  t53 := Tryz.underlying97
  a53 := Tryz.isAgg97
  z53 := Tryz.sizeOf97
  v53 := Tryz.zeroValue97
  t171 := Tryz.underlying96
  a171 := Tryz.isAgg96
  z171 := Tryz.sizeOf96
  v171 := Tryz.zeroValue96
  t173 := Tryz.underlying100
  a173 := Tryz.isAgg100
  z173 := Tryz.sizeOf100
  v173 := Tryz.zeroValue100
  t212 := Tryz.underlying139
  a212 := Tryz.isAgg139
  z212 := Tryz.sizeOf139
  v212 := Tryz.zeroValue139
  t213 := Tryz.underlying141
  a213 := Tryz.isAgg141
  z213 := Tryz.sizeOf141
  t232 := Tryz.underlying214
  a232 := Tryz.isAgg214
  z232 := Tryz.sizeOf214
  v232 := Tryz.zeroValue214
  t233 := Tryz.underlying215
  a233 := Tryz.isAgg215
  z233 := Tryz.sizeOf215
  v233 := Tryz.zeroValue215
  g17 := by kernel_rfl
  g18 := by kernel_rfl
  g19 := by kernel_rfl
  i0 := by kernel_rfl
  i2 := by kernel_rfl
  i3 := by kernel_rfl
  i4 := by kernel_rfl
  i5 := by kernel_rfl
  i9 := by kernel_rfl
  i20 := by kernel_rfl
  i37 := by kernel_rfl
  i46 := by kernel_rfl
  i51 := by kernel_rfl
  i53 := by kernel_rfl
  i171 := by kernel_rfl
  i173 := by kernel_rfl
  i212 := by kernel_rfl
  i232 := by kernel_rfl
  i233 := by kernel_rfl
  m17 := by kernel_rfl
  m18 := by kernel_rfl
  m19 := by kernel_rfl }
open Go.RowKit Go.Sort Go.Lib in
theorem Tryz.strconv_Itoa (n : Int) (h0 : -9223372036854775808 ≤ n) (h1 : n ≤ 9223372036854775807) (w : World) (htab : Lib.TabIs Tryz.prog w "internal/strconv.uint64pow10" .u64 Lib.pow10Tab) :
    Calls Tryz.prog 6 #[.int .i64 n] w fun e w' => e = .returned (.string ⟨(Lib.itoa n).toArray⟩) ∧ ∃ k os, w' = grow (w.drewN k) os := Any.strconv_Itoa Tryz.laysM171 n h0 h1 w htab
end Go.Proofs
