/- asm: the unit of the three lines, from its source. asm: Build of the line 'nop'. Contracts of the document's own kind, Has and Name. The contract of the document's own number. -/
import Derived.Test.YtagkmgdjkailkaaGreatDoorPut45
import Derived.Test.YtagkmgdjkailkaaGreatDoorPut15
namespace Go.Proofs.YtagkmgdjkailkaaGreatDoor
open Go.RowKit Go.Maps Go.MapKept

def srcA : List UInt8 := [97, 58, 32, 109, 111, 118, 46, 108, 32, 61, 97, 44, 114, 49, 10, 98, 114, 97, 32, 97, 10, 110, 111, 112]
def lnsA : List Sc.Ln := [⟨1, [⟨1, 0, [97]⟩, ⟨3, 0, [58]⟩, ⟨1, 0, [109, 111, 118, 46, 108]⟩, ⟨3, 0, [61]⟩, ⟨1, 0, [97]⟩, ⟨3, 0, [44]⟩, ⟨1, 0, [114, 49]⟩]⟩, ⟨2, [⟨1, 0, [98, 114, 97]⟩, ⟨1, 0, [97]⟩]⟩, ⟨3, [⟨1, 0, [110, 111, 112]⟩]⟩]
theorem src_alive : Sc.srcLines srcA = .ok lnsA := by kernel_rfl
theorem lns_alive : lnsA.map lnOf = lsA := rfl

theorem unit_alive (v : Value) (w : World) (hA : AllLaid w) (hv : Sc.BReads w v srcA) :
    Calls Tryz.prog 7 #[v] w fun r w' => (∃ ca cl cc sa sl sc qa ql qc, r = .returned (.tuple #[.agg #[.slice ca cl cc, .slice sa sl sc, .slice qa ql qc], .agg #[.int .i64 0, .int .i64 0]]) ∧ ObjAt w' (.slice ca cl cc) (.slice sa sl sc) (.slice qa ql qc) obA) ∧ Below w.heap.size w w' := by
  refine unit_gen v srcA lnsA obA w hv src_alive (by decide) ?_ hA.gl ?_
  · intro x hx
    have hin : x = ⟨1, [⟨1, 0, [97]⟩, ⟨3, 0, [58]⟩, ⟨1, 0, [109, 111, 118, 46, 108]⟩, ⟨3, 0, [61]⟩, ⟨1, 0, [97]⟩, ⟨3, 0, [44]⟩, ⟨1, 0, [114, 49]⟩]⟩ ∨ x = ⟨2, [⟨1, 0, [98, 114, 97]⟩, ⟨1, 0, [97]⟩]⟩ ∨ x = ⟨3, [⟨1, 0, [110, 111, 112]⟩]⟩ := by simpa [lnsA] using hx
    rcases hin with rfl | rfl | rfl
    · refine ⟨by simp, ?_⟩
      intro q hq
      have e : headS (([⟨1, 0, [97]⟩, ⟨3, 0, [58]⟩, ⟨1, 0, [109, 111, 118, 46, 108]⟩, ⟨3, 0, [61]⟩, ⟨1, 0, [97]⟩, ⟨3, 0, [44]⟩, ⟨1, 0, [114, 49]⟩] : List Sc.Tok).map tkOf) = ⟨#[97]⟩ := rfl
      rw [e, ByteArray.toList_eq]
      revert q
      decide
    · refine ⟨by simp, ?_⟩
      intro q hq
      have e : headS (([⟨1, 0, [98, 114, 97]⟩, ⟨1, 0, [97]⟩] : List Sc.Tok).map tkOf) = ⟨#[98, 114, 97]⟩ := rfl
      rw [e, ByteArray.toList_eq]
      revert q
      decide
    · refine ⟨by simp, ?_⟩
      intro q hq
      have e : headS (([⟨1, 0, [110, 111, 112]⟩] : List Sc.Tok).map tkOf) = ⟨#[110, 111, 112]⟩ := rfl
      rw [e, ByteArray.toList_eq]
      revert q
      decide
  · intro u W hb hl
    rw [lns_alive] at hl
    have hAW : AllLaid W := ⟨hA.isa.below hb hA.isa.sz, hA.frm.below hb hA.frm.sz, KL.below hA.ex hb, hA.gl.below hb hA.gl.sz⟩
    exact build_gen u lsA obA W hl (by decide) (fun gu mb gp mi W1 h => makes_alive W W1 gu mb gp mi hAW h)

end Go.Proofs.YtagkmgdjkailkaaGreatDoor

namespace Go.Proofs.YtagkmgdjkailkaaGreatDoor
open Go.RowKit Go.Maps Go.MapKept

def lnNop : List Sc.Ln := [⟨1, [⟨1, 0, [110, 111, 112]⟩]⟩]
def obNop : Ob := ⟨[0, 9], [], []⟩

theorem rd_lrd {w W : World} {ls : List Sc.Ln} {f : Nat → Value × Int} (h : RdAt w W ls.length ls ls.length f) (hm : ls.length ≤ maxLen) : LRd W (.slice (some ⟨w.heap.size, 0, none⟩) ls.length ls.length) (ls.map lnOf) := by
  obtain ⟨hr, hl, _⟩ := h
  refine ⟨_, _, by rw [List.length_map], by simpa using hm, fun h0 => ⟨w.heap.size, 0, rfl, hr.lt, fun i hi => ?_⟩⟩
  have hi' : i < ls.length := by simpa using hi
  obtain ⟨h1, h2, _⟩ := hl i hi' hi'
  obtain ⟨td, tn, tc, e⟩ := h2.shape
  have c0 := hr.cell0 hi'
  have c1 := hr.cell1 hi'
  rw [e] at c0 h2
  simp only [List.getElem_map, lnOf]
  exact ⟨td, tn, tc, by simpa using c0, by rw [← h1]; simpa using c1, h2⟩

set_option maxHeartbeats 4000000 in
theorem build_nop (v : Value) (w : World) (hA : AllLaid w) (hv : LIn w v lnNop) :
    Calls Tryz.prog 11 #[v, .slice none 0 0] w fun r w' => (∃ ca cl cc sa sl sc qa ql qc, r = .returned (.tuple #[.agg #[.slice ca cl cc, .slice sa sl sc, .slice qa ql qc], .agg #[.int .i64 0, .int .i64 0]]) ∧ ObjAt w' (.slice ca cl cc) (.slice sa sl sc) (.slice qa ql qc) obNop) ∧ Below w.heap.size w w' := by
  have HRD := Lib.hid fun W (hb : Below w.heap.size w W) => read_any v lnNop W (by
    obtain ⟨ad', cap', e, hh⟩ := hv
    refine ⟨ad', cap', e, fun h0 => ?_⟩
    obtain ⟨b, o, rfl, hlt, hc⟩ := hh h0
    refine ⟨b, o, rfl, Nat.lt_of_lt_of_le hlt hb.size, fun i hi => ?_⟩
    obtain ⟨tv, a1, a2, a3⟩ := hc i hi
    exact ⟨tv, by rw [hb.cell (by exact hlt)]; exact a1, by rw [hb.cell (by exact hlt)]; exact a2, a3.below hb (Nat.le_refl _)⟩) (by decide) (by intro l hl; simp [lnNop] at hl; subst hl; simp)
  have HBD := Lib.hid fun u W (hb : Below w.heap.size w W) (hl : LRd W u (lnNop.map lnOf)) => build_gen u [(1, [tkNop])] obNop W hl (by decide) (fun gu mb gp mi W1 h => makes_nop W W1 gu mb gp mi (hA.isa.below hb hA.isa.sz) (hA.frm.below hb hA.frm.sz) h)
  obtain ⟨va, vc, rfl, _⟩ := hv
  clear hA
  go_enter Tryz.func11, Tryz.ntmps11
  go_wp2_with fail
  refine (HRD.out _ (by go_grown)).mono ?_
  rintro e w1 ⟨rfl, ⟨f, hf⟩, hb1⟩
  have hl1 := rd_lrd hf (by decide)
  have hB1 : Below w.heap.size w w1 := Below.trans (by go_grown) (hb1.mono (by go_size))
  have x0 : w1.heap[w.heap.size]? = some (.cells #[.slice none 0 0, .slice none 0 0, .slice none 0 0] 28 (0, 0)) := by rw [hb1.block _ (by go_size), old2 _ _ (by go_size)]; exact new_at _ _ rfl
  have x1 : w1.heap[w.heap.size + 1]? = some (.cells #[.int .i64 0, .int .i64 0] 31 (0, 0)) := by rw [hb1.block _ (by go_size)]; exact new_at _ _ (by go_size)
  have hl2 : LRd w1 (.slice (some ⟨w.heap.size + 1 + 1, 0, none⟩) lnNop.length lnNop.length) (lnNop.map lnOf) := by simpa using hl1
  have HC := Lib.hid (HBD.out _ w1 hB1 hl2)
  have HB1 := Lib.hid hB1
  have X0 := Lib.hid x0
  have X1 := Lib.hid x1
  clear hf hb1 hl1 hl2 hB1 x0 x1 HRD HBD
  go_wp2_with fail
  refine HC.out.mono ?_
  rintro e w6 ⟨⟨ca, cl, cc, sa, sl, sc, qa, ql, qc, rfl, hob⟩, hb6⟩
  have z0 := (hb6.block _ (blk_lt X0.out)).trans X0.out
  have z1 := (hb6.block _ (blk_lt X1.out)).trans X1.out
  have g0 : w6.cell? ⟨w.heap.size, 0, none⟩ = some (.slice none 0 0) := blk_cell z0 rfl
  have g1 : w6.cell? ⟨w.heap.size, 1, none⟩ = some (.slice none 0 0) := blk_cell z0 rfl
  have g2 : w6.cell? ⟨w.heap.size, 2, none⟩ = some (.slice none 0 0) := blk_cell z0 rfl
  have q0 : w6.frozen? ⟨w.heap.size, 0, none⟩ = false := blk_froz z0
  have q1 : w6.frozen? ⟨w.heap.size, 1, none⟩ = false := blk_froz z0
  have q2 : w6.frozen? ⟨w.heap.size, 2, none⟩ = false := blk_froz z0
  obtain ⟨⟨v0, v1⟩, t0, t1⟩ := var2_of z1
  have HOB := Lib.hid hob
  have HB6 := Lib.hid (HB1.out.trans (hb6.mono HB1.out.size))
  have Z0 := Lib.hid z0
  have Z1 := Lib.hid z1
  have zz := blk_lt z1
  clear hob hb6 z0 z1 HC
  go_wp2_with fail
  have n3 : ∀ (x y z : Option Addr) (a b c d e f : Nat) (j : Nat) (n : Int), (#[Value.slice x a b, .slice y c d, .slice z e f] : Array Value)[j]? ≠ some (.int .u8 n) := by
    intro x y z a b c d e f j n h
    rcases j with _ | _ | _ | j <;> simp at h
  have m3 : ∀ (x y z : Option Addr) (a b c d e f : Nat) (j : Nat) (n : ByteArray), (#[Value.slice x a b, .slice y c d, .slice z e f] : Array Value)[j]? ≠ some (.string n) := by
    intro x y z a b c d e f j n h
    rcases j with _ | _ | _ | j <;> simp at h
  have n2 : ∀ (a b : Int) (j : Nat) (n : Int), (#[Value.int .i64 a, .int .i64 b] : Array Value)[j]? ≠ some (.int .u8 n) := by
    intro a b j n h
    rcases j with _ | _ | j <;> simp at h
  have m2 : ∀ (a b : Int) (j : Nat) (n : ByteArray), (#[Value.int .i64 a, .int .i64 b] : Array Value)[j]? ≠ some (.string n) := by
    intro a b j n h
    rcases j with _ | _ | j <;> simp at h
  have o1 := HOB.out.set (i := 0) (v := .slice ca cl cc) Z0.out (m3 _ _ _ _ _ _ _ _ _) (n3 _ _ _ _ _ _ _ _ _)
  have z1 := blk_set (i := 0) (v := .slice ca cl cc) Z0.out
  have o2 := o1.set (i := 1) (v := .slice sa sl sc) z1 (m3 _ _ _ _ _ _ _ _ _) (n3 _ _ _ _ _ _ _ _ _)
  have z2 := blk_set (i := 1) (v := .slice sa sl sc) z1
  have o3 := o2.set (i := 2) (v := .slice qa ql qc) z2 (m3 _ _ _ _ _ _ _ _ _) (n3 _ _ _ _ _ _ _ _ _)
  have Z1b : (((w6.setCell ⟨w.heap.size, 0, none⟩ (.slice ca cl cc)).setCell ⟨w.heap.size, 1, none⟩ (.slice sa sl sc)).setCell ⟨w.heap.size, 2, none⟩ (.slice qa ql qc)).heap[w.heap.size + 1]? = some (.cells #[.int .i64 0, .int .i64 0] 31 (0, 0)) := by
    rw [Below.heap_setCell _ _ _ _ (by show w.heap.size + 1 ≠ w.heap.size; omega), Below.heap_setCell _ _ _ _ (by show w.heap.size + 1 ≠ w.heap.size; omega), Below.heap_setCell _ _ _ _ (by show w.heap.size + 1 ≠ w.heap.size; omega)]
    exact Z1.out
  have o4 := o3.set (i := 0) (v := .int .i64 0) Z1b (m2 _ _) (n2 _ _)
  have o5 := o4.set (i := 1) (v := .int .i64 0) (blk_set (i := 0) (v := .int .i64 0) Z1b) (m2 _ _) (n2 _ _)
  exact bodyPost_ret (v := .tuple #[.agg #[.slice ca cl cc, .slice sa sl sc, .slice qa ql qc], .agg #[.int .i64 0, .int .i64 0]]) (by simp [results, Tryz.results11, go_sem, g0, g1, g2, v0, v1]) rfl ⟨⟨ca, cl, cc, sa, sl, sc, qa, ql, qc, rfl, o5⟩, ((((HB6.out.setCell (Nat.le_refl _) _).setCell (Nat.le_refl _) _).setCell (Nat.le_refl _) _).setCell (Nat.le_succ _) _).setCell (Nat.le_succ _) _⟩


end Go.Proofs.YtagkmgdjkailkaaGreatDoor

namespace Go.Proofs.YtagkmgdjkailkaaGreatDoor.Sc
open Go.RowKit

/-- A byte's kind, as the document's answer tells it. -/
def kindR (c : Int) : Int := if letterB c then 97 else if digitB c then 48 else if blankB c then 32 else 0

theorem beq_no {a b : Int} (h : a ≠ b) : (a == b) = false := by simpa using h

set_option maxHeartbeats 1000000 in
theorem kind_any (c : Int) (w : World) :
    Calls Tryz.prog 29 #[.int .u8 c] w fun e w' => e = .returned (.int .u8 (kindR c)) ∧ w' = w := by
  by_cases he : c = 95 ∨ c = 46 ∨ c = 32 ∨ c = 9 ∨ c = 13
  · rcases he with rfl | rfl | rfl | rfl | rfl
    all_goals
      go_enter Tryz.func29, Tryz.ntmps29
      go_wp2
      go_ret
      exact ⟨rfl, rfl⟩
  · have e5 : (c == 95) = false := beq_no (by omega)
    have e6 : (c == 46) = false := beq_no (by omega)
    have e9 : (c == 32) = false := beq_no (by omega)
    have e10 : (c == 9) = false := beq_no (by omega)
    have e11 : (c == 13) = false := beq_no (by omega)
    have HE : Hid (¬ (c = 95 ∨ c = 46 ∨ c = 32 ∨ c = 9 ∨ c = 13)) := he
    clear he
    by_cases h1 : 97 ≤ c
    all_goals by_cases h2 : c ≤ 122
    all_goals try (exfalso; omega)
    all_goals by_cases h3 : 65 ≤ c
    all_goals try (exfalso; omega)
    all_goals by_cases h4 : c ≤ 90
    all_goals try (exfalso; omega)
    all_goals by_cases h7 : 48 ≤ c
    all_goals try (exfalso; omega)
    all_goals by_cases h8 : c ≤ 57
    all_goals try (exfalso; omega)
    all_goals
      go_enter Tryz.func29, Tryz.ntmps29
      go_wp2
      go_ret
      refine ⟨ret_int ?_, rfl⟩
      have hh := HE.out
      unfold kindR letterB digitB blankB
      repeat' split
      all_goals first | rfl | (exfalso; simp at *; omega)

/-- Has a text this byte? -/
def hasB (s : ByteArray) (c : Int) : Bool := s.data.toList.any fun x => (x.toNat : Int) == c

theorem has_yes {s : ByteArray} {c : Int} {k : Nat} (hk : k < s.size) (h : ((s[k].toNat : Int) == c) = true) : hasB s c = true := by
  unfold hasB
  rw [List.any_eq_true]
  exact ⟨s[k], by rw [Array.mem_toList_iff]; exact Array.getElem_mem _, h⟩

theorem has_no {s : ByteArray} {c : Int} (h : ∀ j, (hj : j < s.size) → ¬ ((s[j].toNat : Int) = c)) : hasB s c = false := by
  unfold hasB
  rw [List.any_eq_false]
  intro x hx
  rw [Array.mem_toList_iff, Array.mem_iff_getElem] at hx
  obtain ⟨j, hj, rfl⟩ := hx
  intro e
  exact h j hj (beq_iff_eq.1 e)

theorem has_any (s : ByteArray) (c : Int) (w : World) (hs : s.size ≤ maxLen) :
    Calls Tryz.prog 31 #[.string s, .int .u8 c] w fun e w' => e = .returned (.bool (hasB s c)) ∧ w' = w := by
  unfold maxLen at hs
  go_enter Tryz.func31, Tryz.ntmps31
  go_wp2
  go_loop [8] (fun i => ∃ k : Nat, k ≤ s.size ∧ i = .int .i64 k ∧ Hid (∀ j, (hj : j < s.size) → j < k → ¬ ((s[j].toNat : Int) = c))) (fun i => s.size - (intOf i).toNat)
  case atStart => exact ⟨0, Nat.zero_le _, rfl, fun j _ h => by omega⟩
  case round =>
    obtain ⟨k, hk, rfl, HN⟩ := hrel
    by_cases hlt : k < s.size
    · go_wp2
      · have h : ((s[k].toNat : Int) == c) = true := by assumption
        have hh := has_yes hlt h
        go_ret
        exact ⟨ret_bool hh.symm, rfl⟩
      · have h : ((s[k].toNat : Int) == c) = false := by assumption
        refine ⟨⟨k + 1, by omega, by go_num, fun j hj hjk => ?_⟩, by simp [intOf]; omega⟩
        by_cases e : j = k
        · subst e; simpa using h
        · exact HN.out j hj (by omega)
    · have HH : Hid (hasB s c = false) := has_no fun j hj => HN.out j hj (by omega)
      go_wp2
      go_ret
      exact ⟨ret_bool HH.out.symm, rfl⟩

theorem signs_all (c : UInt8) : hasB ⟨#[58, 44, 35, 64, 40, 41, 43, 45, 42, 38, 124, 126, 61]⟩ c.toNat = signB c.toNat := by
  have := all8 (fun c => hasB ⟨#[58, 44, 35, 64, 40, 41, 43, 45, 42, 38, 124, 126, 61]⟩ c.toNat == signB c.toNat) (by decide +kernel) c
  simpa using this

theorem signs_any (c : UInt8) (w : World) :
    Calls Tryz.prog 31 #[.string ⟨#[58, 44, 35, 64, 40, 41, 43, 45, 42, 38, 124, 126, 61]⟩, .int .u8 (c.toNat : Int)] w fun e w' => e = .returned (.bool (signB c.toNat)) ∧ w' = w := by
  have := has_any ⟨#[58, 44, 35, 64, 40, 41, 43, 45, 42, 38, 124, 126, 61]⟩ c.toNat w (by decide)
  rw [signs_all] at this
  exact this

end Go.Proofs.YtagkmgdjkailkaaGreatDoor.Sc

namespace Go.Proofs.YtagkmgdjkailkaaGreatDoor.Sc
open Go.RowKit

/-- How far a number has been read: what is left gives the answer; or it is too large already. -/
def NumAt (b : Nat) (D : List UInt8) (k n : Nat) : Prop :=
  n ≤ 68719476735 ∧ (n ≤ 4294967295 → parseN b 0 D = parseN b n (D.drop k)) ∧ (4294967295 < n → parseN b 0 D = none)

theorem numAt_start (b : Nat) (D : List UInt8) : NumAt b D 0 0 := ⟨by omega, fun _ => by simp, fun h => by omega⟩

theorem numAt_no {b : Nat} {D : List UInt8} {k n : Nat} {c : UInt8} {r : List UInt8} (h : NumAt b D k n) (hd : D.drop k = c :: r) (hc : digV b c.toNat = none ∨ 4294967295 < n) : parseN b 0 D = none := by
  by_cases hn : n ≤ 4294967295
  · rw [h.2.1 hn, hd]
    rcases hc with hc | hc
    · simp [parseN, hc]
    · omega
  · exact h.2.2 (by omega)

theorem digV_lt {b c d : Nat} (hb : b = 10 ∨ b = 16) (h : digV b c = some d) : d < b := by
  unfold digV at h
  rcases hb with rfl | rfl
  · split at h
    · injection h with h; omega
    · simp at h
  · split at h
    · injection h with h; omega
    · split at h
      · injection h with h; omega
      · split at h
        · injection h with h; omega
        · cases h

theorem numAt_step {b : Nat} (hb : b = 10 ∨ b = 16) {D : List UInt8} {k n d : Nat} {c : UInt8} {r : List UInt8} (h : NumAt b D k n) (hd : D.drop k = c :: r) (hc : digV b c.toNat = some d) (hn : n ≤ 4294967295) : NumAt b D (k + 1) (n * b + d) := by
  have hlt := digV_lt hb hc
  have hr : D.drop (k + 1) = r := by
    have : D.drop (k + 1) = (D.drop k).drop 1 := by rw [List.drop_drop]
    rw [this, hd]
    rfl
  have hp := h.2.1 hn
  rw [hd] at hp
  simp only [parseN, hc] at hp
  refine ⟨by rcases hb with rfl | rfl <;> omega, fun h1 => ?_, fun h1 => ?_⟩
  · rw [hp, if_pos h1, hr]
  · rw [hp, if_neg (by omega)]

theorem numAt_end {b : Nat} {D : List UInt8} {k n : Nat} (h : NumAt b D k n) (hk : D.length ≤ k) (hn : n ≤ 4294967295) : parseN b 0 D = some n := by
  rw [h.2.1 hn, List.drop_eq_nil_of_le hk]
  rfl

/-- What the document's own number answers. -/
def NumAns (o : Option Nat) (e : Ending) : Prop := ∃ x : Int, e = .returned (.tuple #[.int .i64 x, .bool o.isSome]) ∧ ∀ n, o = some n → x = n

/-- The digit at a byte, as an int; -1: none. -/
def digI (b c : Nat) : Int := match digV b c with
  | none => -1
  | some d => d

end Go.Proofs.YtagkmgdjkailkaaGreatDoor.Sc
