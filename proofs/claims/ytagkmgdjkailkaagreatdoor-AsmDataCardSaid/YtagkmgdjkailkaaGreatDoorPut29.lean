/- asm: labels as a map, and where a value is. asm: a label kept. -/
import Derived.Test.YtagkmgdjkailkaaGreatDoorPut27
import Derived.Test.YtagkmgdjkailkaaGreatDoorPut28
import Derived.Test.YtagkmgdjkailkaaGreatDoorPut25
import Derived.Test.YtagkmgdjkailkaaGreatDoorPut26
namespace Go.Proofs.YtagkmgdjkailkaaGreatDoor
open Go.RowKit Go.Maps Go.MapKept

theorem lawS : Keyed Tryz.prog 9 := string_keyed Tryz.underlying9
theorem zeroI (w : World) : (zeroValue 3).run Tryz.prog w = .ok (.int .i64 0) w := by kernel_rfl

theorem labelAt_snoc (n x : List UInt8) (k : Nat) : ∀ l : List (List UInt8 × Nat), labelAt n (l ++ [(x, k)]) = match labelAt n l with | some j => some j | none => if x = n then some k else none
  | [] => by simp [labelAt]
  | (a, j) :: r => by
    rw [List.cons_append, labelAt, labelAt, labelAt_snoc n x k r]
    by_cases h : a = n
    · rw [if_pos h, if_pos h]
    · rw [if_neg h, if_neg h]

/-- The map tells which item each label stands ahead of. -/
structure LM (D : DataW Unit) (l : List (List UInt8 × Nat)) : Prop where
  im : IsMap D
  has : ∀ n, Maps.has D (.string n) = (labelAt n l).isSome
  at' : ∀ n z k, labelAt n l = some k → D.atKey (.string n) z = .lit (.int .i64 (k : Int))
  no : ∀ n z, labelAt n l = none → D.atKey (.string n) z = z
theorem LM.nil : LM (.map []) [] := ⟨isMap_empty, fun _ => rfl, fun _ _ _ h => by simp [labelAt] at h, fun _ _ _ => rfl⟩
theorem LM.snoc {D : DataW Unit} {l : List (List UInt8 × Nat)} (h : LM D l) {x : List UInt8} {k : Nat} (h0 : labelAt x l = none) : LM (D.put (.string x) (.lit (.int .i64 (k : Int)))) (l ++ [(x, k)]) := by
  refine ⟨h.im.put _ _, fun n => ?_, fun n z j hn => ?_, fun n z hn => ?_⟩
  · rw [labelAt_snoc]
    by_cases hn : x = n
    · subst hn
      rw [has_put_same h.im (by trivial), h0]
      simp
    · rw [has_put_other (fun e => hn (by injection e with e; exact e.symm)), h.has]
      cases labelAt n l <;> simp [hn]
  · rw [labelAt_snoc] at hn
    by_cases hq : x = n
    · subst hq
      rw [h0] at hn
      simp only [if_true, Option.some.injEq] at hn
      subst hn
      rw [atKey_put_same h.im (by trivial)]
    · rw [atKey_put_other (fun e => hq (by injection e with e; exact e.symm))]
      refine h.at' n z j ?_
      cases hl : labelAt n l with
      | none => rw [hl] at hn; simp [hq] at hn
      | some i => rw [hl] at hn; exact hn
  · rw [labelAt_snoc] at hn
    have hl : labelAt n l = none := by
      cases hl : labelAt n l with
      | none => rfl
      | some i => rw [hl] at hn; simp at hn
    have hq : x ≠ n := by
      intro e
      rw [hl] at hn
      simp [e] at hn
    rw [atKey_put_other (fun e => hq (by injection e with e; exact e.symm))]
    exact h.no n z hl

/-- The labels of a unit in memory. -/
def LbR (W : World) (mb : Nat) (l : List (List UInt8 × Nat)) : Prop := ∃ D, W.ownsMap Tryz.prog 9 (plainElem Tryz.prog 3) mb l.length D ∧ LM D l
theorem LbR.go {W W' : World} {mb : Nat} {l : List (List UInt8 × Nat)} (h : LbR W mb l) (hb : Below W.heap.size W W') : LbR W' mb l := by
  obtain ⟨D, h1, h2⟩ := h
  exact ⟨D, h1.kept (gbelow none hb (Nat.le_refl _)) (by simp), h2⟩
theorem LbR.grown {W W' : World} {mb : Nat} {l : List (List UInt8 × Nat)} {r : Option Nat} (h : LbR W mb l) (hb : W.grownBy W' r) (hr : r ≠ some mb) : LbR W' mb l := by
  obtain ⟨D, h1, h2⟩ := h
  exact ⟨D, h1.kept hb (fun e => hr e.symm), h2⟩

theorem strKey {nm : List UInt8} (hl : nm.length ≤ maxLen) : keyOf Tryz.prog 9 (.string ⟨nm.toArray⟩) = some (.string nm) := Go.WideMaps.keyOf_string_mk Tryz.underlying9 (s := ⟨nm.toArray⟩) (by simpa [ByteArray.size] using hl)
theorem lit_int {a b : Int} (h : (DataW.lit (.int .i64 a) : DataW Unit) = .lit (.int .i64 b)) : a = b := by
  injection h with h
  injection h with _ h
theorem LbR.look {W : World} {mb k : Nat} {l : List (List UInt8 × Nat)} {nm : List UInt8} (h : LbR W mb l) (hl : nm.length ≤ maxLen) (hk : labelAt nm l = some k) : (Instr.lookup 74 (.map (some mb)) (.string ⟨nm.toArray⟩) true).run Tryz.prog W = .ok (.tuple #[.int .i64 (k : Int), .bool true]) W := by
  obtain ⟨D, hm, hd⟩ := h
  obtain ⟨v, ps, hrun, hv⟩ := hm.look_ok lawS Tryz.underlying74 (zeroI W) (plainElem_int Tryz.underlying3 (by decide)) (strKey hl)
  obtain ⟨c, rfl, hc, _⟩ := plainElem_int_inv Tryz.underlying3 hv
  have hc1 := (hd.at' nm _ k hk).symm.trans (congrArg Prod.fst hc)
  have hc2 : (k : Int) = c := lit_int hc1
  subst hc2
  have hh : Maps.has D (.string nm) = true := by rw [hd.has, hk]; rfl
  rw [hh] at hrun
  exact hrun
theorem LbR.look0 {W : World} {mb : Nat} {l : List (List UInt8 × Nat)} {nm : List UInt8} (h : LbR W mb l) (hl : nm.length ≤ maxLen) (hk : labelAt nm l = none) : (Instr.lookup 74 (.map (some mb)) (.string ⟨nm.toArray⟩) true).run Tryz.prog W = .ok (.tuple #[.int .i64 0, .bool false]) W := by
  obtain ⟨D, hm, hd⟩ := h
  obtain ⟨v, ps, hrun, hv⟩ := hm.look_ok lawS Tryz.underlying74 (zeroI W) (plainElem_int Tryz.underlying3 (by decide)) (strKey hl)
  obtain ⟨c, rfl, hc, _⟩ := plainElem_int_inv Tryz.underlying3 hv
  have hc1 := (hd.no nm _ hk).symm.trans (congrArg Prod.fst hc)
  have hc2 : (0 : Int) = c := lit_int hc1
  subst hc2
  have hh : Maps.has D (.string nm) = false := by rw [hd.has, hk]; rfl
  rw [hh] at hrun
  exact hrun
theorem LbR.at1 {W : World} {mb k : Nat} {l : List (List UInt8 × Nat)} {nm : List UInt8} (h : LbR W mb l) (hl : nm.length ≤ maxLen) (hk : labelAt nm l = some k) : (Instr.lookup 74 (.map (some mb)) (.string ⟨nm.toArray⟩) false).run Tryz.prog W = .ok (.int .i64 (k : Int)) W := by
  obtain ⟨D, hm, hd⟩ := h
  obtain ⟨c, hrun, hat, _⟩ := hm.lookup_int lawS Tryz.underlying74 Tryz.underlying3 (zeroI W) (strKey hl)
  have hc2 : (k : Int) = c := lit_int ((hd.at' nm _ k hk).symm.trans hat)
  subst hc2
  exact hrun

set_option maxHeartbeats 4000000 in
theorem placeOf_found (gu gp mb k n : Nat) (e nv iv pp rv : Value) (ln add : Int) (nm : List UInt8) (l : List (List UInt8 × Nat)) (ps : List Int) (w : World) (hu : w.heap[gu]? = some (.cells (uC e ln nv (.map (some mb)) iv pp (.slice (some ⟨gp, 0, none⟩) (n + 1) (n + 1)) rv) 79 (0, 0)))
    (hm : LbR w mb l) (hp : PlR w gp n (n + 1) ps) (hn : nm ≠ []) (hl : nm.length ≤ maxLen) (hk : labelAt nm l = some k) (hkn : k ≤ n) (_ : n ≤ 100000) (h0 : 0 ≤ ps.getD k 0) (h1 : ps.getD k 0 ≤ 1000000) (h2 : -1000000000000 ≤ add) (h3 : add ≤ 1000000000000) :
    Calls Tryz.prog 93 #[.pointer (some ⟨gu, 0, none⟩), .agg #[.string ⟨nm.toArray⟩, .int .i64 add]] w fun r w' => r = .returned (.tuple #[.int .i64 (ps.getD k 0 + add), .int .i64 0]) ∧ Below w.heap.size w w' := by
  have hlk := (hm.go (oalloc w (.cells #[.string ⟨nm.toArray⟩, .int .i64 add] 134))).look hl hk
  have hlk' := (hm.go (oalloc w (.cells #[.string ⟨nm.toArray⟩, .int .i64 add] 134)).drew).look hl hk
  have c3 : w.cell? ⟨gu, 3, none⟩ = some (.map (some mb)) := blk_cell hu rfl
  have c6 : w.cell? ⟨gu, 6, none⟩ = some (.slice (some ⟨gp, 0, none⟩) (n + 1) (n + 1)) := blk_cell hu rfl
  have hg := blk_lt hu
  have hn1 : (nm == []) = false := by simpa using hn
  obtain ⟨q, hq⟩ : ∃ q, ps.getD k 0 = q := ⟨_, rfl⟩
  have hgp : gp < w.heap.size := by obtain ⟨cs, k1, _⟩ := hp; exact blk_lt k1
  have cp : w.cell? ⟨gp, k, none⟩ = some (.int .i64 q) := by obtain ⟨cs, k1, _, _, k4⟩ := hp; rw [← hq]; exact blk_cell k1 (k4 k (by omega))
  rw [hq] at h0 h1 ⊢
  clear hp hq hm hu hk
  go_enter Tryz.func93, Tryz.ntmps93
  go_wp2_with fail
  go_region
  all_goals go_wp2_with fail
  all_goals go_region
  all_goals go_wp2_with fail
  all_goals
    go_ret2
    exact ⟨rfl, ((oalloc _ _).drew).drew⟩

set_option maxHeartbeats 4000000 in
theorem placeOf_none (gu mb : Nat) (e nv iv pp pv rv : Value) (ln add : Int) (nm : List UInt8) (l : List (List UInt8 × Nat)) (w : World) (hu : w.heap[gu]? = some (.cells (uC e ln nv (.map (some mb)) iv pp pv rv) 79 (0, 0)))
    (hm : LbR w mb l) (hn : nm ≠ []) (hl : nm.length ≤ maxLen) (hk : labelAt nm l = none) :
    Calls Tryz.prog 93 #[.pointer (some ⟨gu, 0, none⟩), .agg #[.string ⟨nm.toArray⟩, .int .i64 add]] w fun r w' => r = .returned (.tuple #[.int .i64 0, .int .i64 6]) ∧ Below w.heap.size w w' := by
  have hlk := (hm.go (oalloc w (.cells #[.string ⟨nm.toArray⟩, .int .i64 add] 134))).look0 hl hk
  have hlk' := (hm.go (oalloc w (.cells #[.string ⟨nm.toArray⟩, .int .i64 add] 134)).drew).look0 hl hk
  have c3 : w.cell? ⟨gu, 3, none⟩ = some (.map (some mb)) := blk_cell hu rfl
  have hg := blk_lt hu
  have hn1 : (nm == []) = false := by simpa using hn
  clear hm hu hk
  go_enter Tryz.func93, Tryz.ntmps93
  go_wp2_with fail
  go_region
  all_goals go_wp2_with fail
  all_goals
    go_ret2
    exact ⟨rfl, (oalloc _ _).drew⟩

end Go.Proofs.YtagkmgdjkailkaaGreatDoor

namespace Go.Proofs.YtagkmgdjkailkaaGreatDoor
open Go.RowKit Go.Maps Go.MapKept

theorem index_nil (fc : Array Value) (w : World) : Calls Tryz.prog 150 #[.slice none 0 0, .func (.func 115) #[] fc] w fun r w' => r = .returned (.int .i64 (-1)) ∧ Below w.heap.size w w' := by
  go_enter Tryz.func150, Tryz.ntmps150
  go_wp2_with fail
  refine wp_loop_rounds 1 ?_
  rw [rounds_succ]
  go_wp2
  go_ret
  exact ⟨rfl, Below.refl _ _⟩
theorem contains_nil (fc : Array Value) (w : World) : Calls Tryz.prog 113 #[.slice none 0 0, .func (.func 115) #[] fc] w fun r w' => r = .returned (.bool false) ∧ Below w.heap.size w w' := by
  have HI := Lib.hid (index_nil fc)
  go_enter Tryz.func113, Tryz.ntmps113
  go_wp2_with (first | (go_at_call 150; refine (HI.out _).mono ?_; rintro e w1 ⟨rfl, hb1⟩) | fail)
  go_ret
  exact ⟨rfl, hb1⟩

set_option maxHeartbeats 4000000 in
theorem free_yes (gu mb : Nat) (n : Int) (nm : List UInt8) (l : List (List UInt8 × Nat)) (w : World) (c0 : w.cell? ⟨gu, 0, none⟩ = some (.slice none 0 0)) (c3 : w.cell? ⟨gu, 3, none⟩ = some (.map (some mb))) (hm : LbR w mb l) (hk : labelAt nm l = none) (hl : nm.length ≤ maxLen) (hG : Sc.Glob w) (hr : regU 1 nm < 0) (hname : Xp.nameR nm = true) :
    Calls Tryz.prog 81 #[.pointer (some ⟨gu, 0, none⟩), tokV 1 n ⟨nm.toArray⟩] w fun r w' => r = .returned (.bool true) ∧ Below w.heap.size w w' := by
  have HNA : Hid (∀ W, Calls Tryz.prog 112 #[.string ⟨nm.toArray⟩] W fun r w' => r = .returned (.bool true) ∧ W = w') := fun W => by
    refine (Xp.name_any ⟨nm.toArray⟩ W).mono ?_
    rintro e w' ⟨rfl, rfl⟩
    exact ⟨by simp [hname], rfl⟩
  have HCO := Lib.hid fun fc W => contains_nil fc W
  have HRG := Lib.hid fun W (hb : Below w.heap.size w W) => register_word n ⟨nm.toArray⟩ W (hG.below hb hG.sz)
  have hg : gu < w.heap.size := World.block_lt_of_cell? w _ c0
  have hlk := (hm.go (oalloc w (.cells #[.int .i64 1, .int .i64 n, .string ⟨nm.toArray⟩] 89))).look0 hl hk
  have hlk' := (hm.go (oalloc w (.cells #[.int .i64 1, .int .i64 n, .string ⟨nm.toArray⟩] 89)).drew).look0 hl hk
  clear hname hm hG hk
  simp only at HRG
  generalize regU 1 nm = rg at *
  unfold tokV at *
  go_enter Tryz.func81, Tryz.ntmps81
  go_wp2_with fail
  go_region
  all_goals go_wp2_with fail
  all_goals
    refine (HNA.out _).mono ?_
    rintro e w1 ⟨rfl, rfl⟩
    go_wp2_with fail
    refine (HRG.out _ ((oalloc _ _).drew)).mono ?_
    rintro e w1 ⟨rfl, hb1⟩
    have HB1 : Hid (Below w.heap.size w w1) := ((oalloc w (.cells #[.int .i64 1, .int .i64 n, .string ⟨nm.toArray⟩] 89)).drew).trans (hb1.mono (by show w.heap.size ≤ (World.alloc _ _).heap.size; simp))
    have d0 : w1.cell? ⟨gu, 0, none⟩ = some (.slice none 0 0) := by rw [HB1.out.cell (by exact hg)]; exact c0
    have hg1 := Nat.lt_of_lt_of_le hg HB1.out.size
    clear hb1
    go_wp2_with fail
    refine (HCO.out _ _).mono ?_
    rintro e w2 ⟨rfl, hb2⟩
    go_wp2_with fail
    go_ret
    exact ⟨rfl, HB1.out.trans (hb2.mono HB1.out.size)⟩

end Go.Proofs.YtagkmgdjkailkaaGreatDoor
