/- asm: which register a token is. asm: operands. Macro: what stands between commas. -/
import Derived.Test.YtagkmgdjkailkaaGreatDoorPut23
import Derived.Test.YtagkmgdjkailkaaGreatDoorPut19
namespace Go.Proofs.YtagkmgdjkailkaaGreatDoor
open Go.RowKit

/-- The register that a token is: -1, if none. -/
def regU (k : Int) (t : List UInt8) : Int := if k = 1 then (((List.range 16).find? fun j : Nat => decide (t = 114 :: Lib.itoa (j : Int))).elim (-1) fun j => (j : Int)) else -1

theorem tok_box {w w1 : World} {B : Nat} {k n : Int} {t : ByteArray} {r : Nat} (h : w.heap[r]? = some (.cells #[.int .i64 k, .int .i64 n, .string t] 89 (0, 0))) (hb : Below B w w1) (hr : r < B) : w1.heap[r]? = some (.cells #[.int .i64 k, .int .i64 n, .string t] 89 (0, 0)) := by
  rw [hb.block r hr]; exact h

set_option maxHeartbeats 4000000 in
theorem register_other (k n : Int) (t : ByteArray) (hk : k ≠ 1) (w : World) : Calls Tryz.prog 116 #[tokV k n t] w fun r w' => r = .returned (.int .i64 (-1)) ∧ Below w.heap.size w w' := by
  have hk1 : (k == 1) = false := by simpa using hk
  have HA := Lib.hid fun W => aword_any k n t W
  rw [hk1] at HA
  unfold tokV at *
  have H0 := Lib.hid (blk_new w #[.int .i64 k, .int .i64 n, .string t] 89)
  go_enter Tryz.func116, Tryz.ntmps116
  go_wp2_with fail
  go_loopw [4] (fun i wr => ∃ m : Nat, m ≤ 16 ∧ i = .int .i64 m ∧ Hid (wr.heap[w.heap.size]? = some (.cells #[.int .i64 k, .int .i64 n, .string t] 89 (0, 0))) ∧ Hid (Below w.heap.size w wr)) (fun i _ => 16 - (intOf i).toNat)
  case atStart => exact ⟨0, Nat.zero_le _, rfl, H0, oalloc _ _⟩
  case round =>
    obtain ⟨m, hm, rfl, HX, HB⟩ := hrel
    clear H0
    by_cases hlt : m < 16
    · have hm' : (m : Int) < 16 := by omega
      have x0 : wr.cell? ⟨w.heap.size, 0, none⟩ = some (.int .i64 k) := blk_cell HX.out rfl
      have x1 : wr.cell? ⟨w.heap.size, 1, none⟩ = some (.int .i64 n) := blk_cell HX.out rfl
      have x2 : wr.cell? ⟨w.heap.size, 2, none⟩ = some (.string t) := blk_cell HX.out rfl
      have hz := blk_lt HX.out
      go_wp2_with fail
      first | (go_region_with (go_at_call 44; refine (HA.out _).mono ?_; rintro e w1 ⟨rfl, hb1⟩; have hb2 : Below wr.heap.size wr w1 := (Below.refl _ _).drew.trans hb1; have HX1 := Lib.hid (tok_box HX.out hb2 hz); have HB1 : Hid (Below w.heap.size w w1) := HB.out.trans (hb2.mono (by omega)); clear hb1 hb2)) | fail
      all_goals go_wp2
      all_goals exact ⟨⟨m + 1, by omega, by go_num, HX1, HB1⟩, by simp [intOf]; omega⟩
    · have hm' : ¬ (m : Int) < 16 := by omega
      go_wp2
      go_ret
      exact ⟨rfl, HB.out⟩

theorem regU_no {t : List UInt8} (h : ∀ j : Nat, j < 16 → t ≠ 114 :: Lib.itoa j) : regU 1 t = -1 := by
  unfold regU
  rw [if_pos rfl, List.find?_eq_none.2 (by intro j hj; simpa using h j (by simpa using hj))]
  rfl
theorem regU_yes {t : List UInt8} {m : Nat} (hm : m < 16) (h : ∀ j : Nat, j < m → t ≠ 114 :: Lib.itoa j) (he : t = 114 :: Lib.itoa m) : regU 1 t = m := by
  unfold regU
  rw [if_pos rfl]
  have : (List.range 16).find? (fun j : Nat => decide (t = 114 :: Lib.itoa (j : Int))) = some m := by
    rw [List.find?_eq_some_iff_getElem]
    exact ⟨by simpa using he, m, by simpa using hm, by simp, fun j hj => by simpa using h j hj⟩
  rw [this]
  rfl

theorem reg_eq (t : ByteArray) (l : List UInt8) : (t.toList == (⟨#[114]⟩ ++ (⟨l.toArray⟩ : ByteArray)).toList) = decide (t.data.toList = 114 :: l) := by
  have e1 : t.toList = t.data.toList := ByteArray.toList_eq t
  have e2 : (⟨#[114]⟩ ++ (⟨l.toArray⟩ : ByteArray)).toList = 114 :: l := by rw [ByteArray.toList_eq, ByteArray.data_append]; simp
  rw [e1, e2]
  exact Bool.eq_iff_iff.2 (by simp)

set_option maxHeartbeats 4000000 in
theorem register_word (n : Int) (t : ByteArray) (w : World) (hG : Sc.Glob w) : Calls Tryz.prog 116 #[tokV 1 n t] w fun r w' => r = .returned (.int .i64 (regU 1 t.data.toList)) ∧ Below w.heap.size w w' := by
  have HA := Lib.hid fun W => aword_any 1 n t W
  have hk1 : ((1 : Int) == 1) = true := rfl
  rw [hk1] at HA
  unfold tokV at *
  have HG := Lib.hid hG
  clear hG
  have H0 := Lib.hid (blk_new w #[.int .i64 1, .int .i64 n, .string t] 89)
  go_enter Tryz.func116, Tryz.ntmps116
  go_wp2_with fail
  go_loopw [4] (fun i wr => ∃ m : Nat, m ≤ 16 ∧ i = .int .i64 m ∧ Hid (wr.heap[w.heap.size]? = some (.cells #[.int .i64 1, .int .i64 n, .string t] 89 (0, 0))) ∧ Hid (Below w.heap.size w wr) ∧ Hid (∀ j : Nat, j < m → t.data.toList ≠ 114 :: Lib.itoa j)) (fun i _ => 16 - (intOf i).toNat)
  case atStart => exact ⟨0, Nat.zero_le _, rfl, H0, oalloc _ _, fun j hj => by omega⟩
  case round =>
    obtain ⟨m, hm, rfl, HX, HB, HN⟩ := hrel
    clear H0
    by_cases hlt : m < 16
    · have hm' : (m : Int) < 16 := by omega
      have x0 : wr.cell? ⟨w.heap.size, 0, none⟩ = some (.int .i64 1) := blk_cell HX.out rfl
      have x1 : wr.cell? ⟨w.heap.size, 1, none⟩ = some (.int .i64 n) := blk_cell HX.out rfl
      have x2 : wr.cell? ⟨w.heap.size, 2, none⟩ = some (.string t) := blk_cell HX.out rfl
      have hz := blk_lt HX.out
      have HI : Hid (∀ W, Below w.heap.size w W → Calls Tryz.prog 6 #[.int .i64 m] W fun e w' => e = .returned (.string ⟨(Lib.itoa m).toArray⟩) ∧ Below W.heap.size W w') := fun W hb => Sc.itoa_any m (by omega) (by omega) W (HG.out.below hb HG.out.sz)
      have hrq : ∀ b : Bool, decide (t.data.toList = 114 :: Lib.itoa m) = b → (t.toList == (⟨#[114]⟩ ++ (⟨(Lib.itoa m).toArray⟩ : ByteArray)).toList) = b := fun b h => by rw [reg_eq]; exact h
      have hrs : (⟨(Lib.itoa m).toArray⟩ : ByteArray).size ≤ 21 := by
        have := Lib.itoa_length_le m (by omega) (by omega)
        simpa [ByteArray.size] using this
      generalize (⟨(Lib.itoa m).toArray⟩ : ByteArray) = rs at *
      by_cases he : t.data.toList = 114 :: Lib.itoa m
      · have HE : Hid (regU 1 t.data.toList = m) := regU_yes hlt (fun j hj => HN.out j hj) he
        have hq := hrq true (by simpa using he)
        clear HN he hrq
        go_wp2_with fail
        go_region_with (first
          | (go_at_call 44; refine (HA.out _).mono ?_; rintro e w1 ⟨rfl, hb1⟩; have hb2 : Below wr.heap.size wr w1 := (Below.refl _ _).drew.trans hb1; have HX1 := Lib.hid (tok_box HX.out hb2 hz); have y2 : w1.cell? ⟨w.heap.size, 2, none⟩ = some (.string t) := blk_cell HX1.out rfl; have hz1 := blk_lt HX1.out; have HB1 : Hid (Below w.heap.size w w1) := HB.out.trans (hb2.mono (by omega)); clear hb1 hb2)
          | (go_at_call 6; refine (HI.out _ HB1.out).mono ?_; rintro e w2 ⟨rfl, hb3⟩; have HX2 := Lib.hid (tok_box HX1.out hb3 hz1); have z2 : w2.cell? ⟨w.heap.size, 2, none⟩ = some (.string t) := blk_cell HX2.out rfl; have HB2 : Hid (Below w.heap.size w w2) := HB1.out.trans (hb3.mono (by omega)); clear hb3))
        all_goals go_wp2
        all_goals go_ret
        all_goals rw [HE.out]
        all_goals exact ⟨rfl, HB2.out⟩
      · have HN2 : Hid (∀ j : Nat, j < m + 1 → t.data.toList ≠ 114 :: Lib.itoa j) := fun j hj => by
          by_cases e : j = m
          · subst e; exact he
          · exact HN.out j (by omega)
        have hq := hrq false (by simpa using he)
        clear HN he hrq
        go_wp2_with fail
        first | (go_region_with (first
          | (go_at_call 44; refine (HA.out _).mono ?_; rintro e w1 ⟨rfl, hb1⟩; have hb2 : Below wr.heap.size wr w1 := (Below.refl _ _).drew.trans hb1; have HX1 := Lib.hid (tok_box HX.out hb2 hz); have y2 : w1.cell? ⟨w.heap.size, 2, none⟩ = some (.string t) := blk_cell HX1.out rfl; have hz1 := blk_lt HX1.out; have HB1 : Hid (Below w.heap.size w w1) := HB.out.trans (hb2.mono (by omega)); clear hb1 hb2)
          | (go_at_call 6; refine (HI.out _ HB1.out).mono ?_; rintro e w2 ⟨rfl, hb3⟩; have HX2 := Lib.hid (tok_box HX1.out hb3 hz1); have z2 : w2.cell? ⟨w.heap.size, 2, none⟩ = some (.string t) := blk_cell HX2.out rfl; have HB2 : Hid (Below w.heap.size w w2) := HB1.out.trans (hb3.mono (by omega)); clear hb3))) | fail
        all_goals go_wp2
        all_goals exact ⟨⟨m + 1, by omega, by go_num, HX2, HB2, HN2⟩, by simp [intOf]; omega⟩
    · have hm' : ¬ (m : Int) < 16 := by omega
      have HX2 : Hid (regU 1 t.data.toList = -1) := regU_no fun j hj => HN.out j (by omega)
      go_wp2
      go_ret
      rw [HX2.out]
      exact ⟨rfl, HB.out⟩

end Go.Proofs.YtagkmgdjkailkaaGreatDoor

namespace Go.Proofs.YtagkmgdjkailkaaGreatDoor
open Go.RowKit

/-- An operand as one value. -/
def opV (kd : ByteArray) (r : Int) (nm : ByteArray) (n : Int) : Value := .agg #[.string kd, .int .i64 r, .string nm, .int .i64 n]

theorem var4_of {w : World} {R : Nat} {a b c d : Value} {t : TypeId} (h : w.heap[R]? = some (.cells #[a, b, c, d] t (0, 0))) : ((w.cell? ⟨R, 0, none⟩ = some a ∧ w.cell? ⟨R, 1, none⟩ = some b) ∧ (w.cell? ⟨R, 2, none⟩ = some c ∧ w.cell? ⟨R, 3, none⟩ = some d)) ∧ (w.frozen? ⟨R, 0, none⟩ = false ∧ w.frozen? ⟨R, 1, none⟩ = false) ∧ w.frozen? ⟨R, 2, none⟩ = false ∧ w.frozen? ⟨R, 3, none⟩ = false := by
  refine ⟨⟨⟨?_, ?_⟩, ?_, ?_⟩, ⟨?_, ?_⟩, ?_, ?_⟩ <;> simp [World.cell?, World.frozen?, h]

theorem aexpr_atom (gu : Nat) (kd : ByteArray) (v : Value) (x : Tk) (nm : ByteArray) (n : Int) (hk : AtomK x.k x.n x.t nm n) (w : World) (hL : Xp.KLaid w) (h : PReads w v [x]) (c0 : w.cell? ⟨gu, 0, none⟩ = some (.slice none 0 0)) :
    Calls Tryz.prog 124 #[.pointer (some ⟨gu, 0, none⟩), .string kd, v] w fun r w' => r = .returned (.tuple #[opV kd 0 nm n, .int .i64 0]) ∧ Below w.heap.size w w' := by
  have HM := Lib.hid fun W (hb : Below w.heap.size w W) => mfirst_atom v x nm n hk W (KL.below hL hb) (h.below hb (Nat.le_refl _))
  have hg : gu < w.heap.size := World.block_lt_of_cell? w _ c0
  obtain ⟨ad, cap, rfl, _⟩ := h
  clear hL hk
  unfold opV
  go_enter Tryz.func124, Tryz.ntmps124
  go_wp2_with fail
  refine (HM.out _ (oalloc _ _)).mono ?_
  rintro e w1 ⟨rfl, hb1⟩
  obtain ⟨hB1, hz1, xr⟩ := box_keep hb1
  obtain ⟨⟨⟨u0, u1⟩, u2, u3⟩, ⟨f0, f1⟩, f2, f3⟩ := var4_of xr
  have HB1 := Lib.hid hB1
  have XR := Lib.hid xr
  clear hb1 hB1 xr HM
  go_wp2_with fail
  exact bodyPost_ret (v := .tuple #[.agg #[.string kd, .int .i64 0, .string nm, .int .i64 n], .int .i64 0]) (by simp [results, Tryz.results124, go_sem, World.cell?_alloc_lt, hz1, u0, u1, u2, u3]) rfl ⟨rfl, ((((HB1.out.setCell (Nat.le_refl _) _).setCell (Nat.le_refl _) _).setCell (Nat.le_refl _) _).setCell (Nat.le_refl _) _).alloc (by simp; omega) _⟩

/-- An operand that is a place: one token. -/
theorem operand_atom (gu : Nat) (v : Value) (x : Tk) (nm : ByteArray) (n : Int) (hk : AtomK x.k x.n x.t nm n) (w : World) (hL : Xp.KLaid w) (hG : Sc.Glob w) (h : PReads w v [x]) (c0 : w.cell? ⟨gu, 0, none⟩ = some (.slice none 0 0)) (hr : regU x.k x.t.data.toList < 0) :
    Calls Tryz.prog 86 #[.pointer (some ⟨gu, 0, none⟩), v] w fun r w' => r = .returned (.tuple #[opV ⟨#[112]⟩ 0 nm n, .int .i64 0]) ∧ Below w.heap.size w w' := by
  have hg : gu < w.heap.size := World.block_lt_of_cell? w _ c0
  have HN := Lib.hid fun W (hb : Below w.heap.size w W) => next_any v [x] W (h.below hb (Nat.le_refl _))
  have HE := Lib.hid fun W (hb : Below w.heap.size w W) => aexpr_atom gu ⟨#[112]⟩ v x nm n hk W (KL.below hL hb) (h.below hb (Nat.le_refl _)) (by rw [hb.cell (by exact hg)]; exact c0)
  have h3 : (x.k == 3) = false := by rcases hk with ⟨e, _⟩ | ⟨e, _⟩ <;> simp [e]
  have HS : Hid (∀ s W, Calls Tryz.prog 80 #[tokV x.k x.n x.t, .string s] W fun r w' => r = .returned (.bool false) ∧ Below W.heap.size W w') := fun s W => by
    have := asign_any x.k x.n x.t s W
    rwa [h3, Bool.false_and] at this
  have HR : Hid (∀ W, Below w.heap.size w W → ∃ r, r < 0 ∧ Calls Tryz.prog 116 #[tokV x.k x.n x.t] W fun e w' => e = .returned (.int .i64 r) ∧ Below W.heap.size W w') := fun W hb => by
    by_cases h1 : x.k = 1
    · refine ⟨regU 1 x.t.data.toList, by rw [← h1]; exact hr, ?_⟩
      rw [h1]
      exact register_word x.n x.t W (hG.below hb hG.sz)
    · exact ⟨-1, by omega, register_other x.k x.n x.t h1 W⟩
  obtain ⟨ad, cap, rfl, _⟩ := h
  have hrr : regU x.k x.t.data.toList < 0 := hr
  clear hL hk hG hr hrr h3
  unfold opV at *
  unfold Tk.V tokV headT at *
  simp only [List.length_singleton] at *
  go_enter Tryz.func86, Tryz.ntmps86
  go_wp2_with fail
  refine (HN.out _ (oalloc _ _)).mono ?_
  rintro e w1 ⟨⟨v', rfl, hv⟩, hb1⟩
  obtain ⟨ad', cap', rfl, _⟩ := hv
  obtain ⟨hB1, hz1, xr⟩ := box_keep hb1
  simp only [List.tail_cons, List.length_nil]
  clear hb1
  go_wp2_with fail
  refine (HS.out _ _).mono ?_
  rintro e w2 ⟨rfl, hb2⟩
  obtain ⟨hB2, hz2, xt⟩ := box_keep hb2
  have t0 : w2.cell? ⟨w1.heap.size, 0, none⟩ = some (.int .i64 x.k) := blk_cell xt rfl
  have t1 : w2.cell? ⟨w1.heap.size, 1, none⟩ = some (.int .i64 x.n) := blk_cell xt rfl
  have t2 : w2.cell? ⟨w1.heap.size, 2, none⟩ = some (.string x.t) := blk_cell xt rfl
  replace xr := (hB2.block _ (by omega)).trans xr
  have HB := Lib.hid (hB1.trans (hB2.mono (by omega)))
  clear hb2 hB2 hB1
  go_wp2_with fail
  refine (HS.out _ _).mono ?_
  rintro e w3 ⟨rfl, hb3⟩
  replace xt := (hb3.block _ (by omega)).trans xt
  replace xr := (hb3.block _ (by omega)).trans xr
  replace t0 := (hb3.cell (by show w1.heap.size < w2.heap.size; omega)).trans t0
  replace t1 := (hb3.cell (by show w1.heap.size < w2.heap.size; omega)).trans t1
  replace t2 := (hb3.cell (by show w1.heap.size < w2.heap.size; omega)).trans t2
  replace HB := Lib.hid (HB.out.trans (hb3.mono (by omega)))
  have hz3 : w1.heap.size < w3.heap.size := Nat.lt_of_lt_of_le (by omega) hb3.size
  clear hb3
  go_wp2_with fail
  refine (HS.out _ _).mono ?_
  rintro e w4 ⟨rfl, hb4⟩
  replace xt := (hb4.block _ (by omega)).trans xt
  replace xr := (hb4.block _ (by omega)).trans xr
  replace t0 := (hb4.cell (by show w1.heap.size < w3.heap.size; omega)).trans t0
  replace t1 := (hb4.cell (by show w1.heap.size < w3.heap.size; omega)).trans t1
  replace t2 := (hb4.cell (by show w1.heap.size < w3.heap.size; omega)).trans t2
  replace HB := Lib.hid (HB.out.trans (hb4.mono (by omega)))
  have hz4 : w1.heap.size < w4.heap.size := Nat.lt_of_lt_of_le (by omega) hb4.size
  clear hb4
  obtain ⟨rg, hrg, hcall⟩ := HR.out w4 HB.out
  have HRC := Lib.hid hcall
  clear hcall
  have hrg' : ¬ (0 : Int) ≤ rg := by omega
  go_wp2_with fail
  refine HRC.out.mono ?_
  rintro e w5 ⟨rfl, hb5⟩
  replace xt := (hb5.block _ (by omega)).trans xt
  replace xr := (hb5.block _ (by omega)).trans xr
  replace t0 := (hb5.cell (by show w1.heap.size < w4.heap.size; omega)).trans t0
  replace t1 := (hb5.cell (by show w1.heap.size < w4.heap.size; omega)).trans t1
  replace t2 := (hb5.cell (by show w1.heap.size < w4.heap.size; omega)).trans t2
  replace HB := Lib.hid (HB.out.trans (hb5.mono (by omega)))
  have hz5 : w1.heap.size < w5.heap.size := Nat.lt_of_lt_of_le (by omega) hb5.size
  clear hb5
  have XR := Lib.hid xr
  clear xr xt t0 t1 t2
  go_wp2_with fail
  refine (HE.out _ HB.out).mono ?_
  rintro e w6 ⟨rfl, hb6⟩
  obtain ⟨⟨⟨u0, u1⟩, u2, u3⟩, ⟨f0, f1⟩, f2, f3⟩ := var4_of ((hb6.block _ (by omega)).trans XR.out)
  have hz6 : w.heap.size < w6.heap.size := Nat.lt_of_lt_of_le (by omega) hb6.size
  replace HB := Lib.hid (HB.out.trans (hb6.mono (by omega)))
  clear hb6
  go_wp2_with fail
  exact bodyPost_ret (v := .tuple #[.agg #[.string ⟨#[112]⟩, .int .i64 0, .string nm, .int .i64 n], .int .i64 0]) (by simp [results, Tryz.results86, go_sem, u0, u1, u2, u3]) rfl ⟨rfl, (((HB.out.setCell (Nat.le_refl _) _).setCell (Nat.le_refl _) _).setCell (Nat.le_refl _) _).setCell (Nat.le_refl _) _⟩

end Go.Proofs.YtagkmgdjkailkaaGreatDoor

namespace Go.Proofs.YtagkmgdjkailkaaGreatDoor
open Go.RowKit

/-- Whether a token is a comma. -/
def isComma (x : Tk) : Bool := x.k == 3 && x.t.toList == [44]
/-- What stands between commas, from a piece that was begun on. -/
def splitT : List Tk → List Tk → List (List Tk)
  | cur, [] => [cur]
  | cur, x :: r => if isComma x = true then cur :: splitT [] r else splitT (cur ++ [x]) r
/-- Split: nothing, if there is no token at all. -/
def piecesT (ts : List Tk) : List (List Tk) := if ts = [] then [] else splitT [] ts

theorem infoTx : (Tryz.prog.info? 81).map (fun i => (i.zero, i.size, i.bytes)) = some (some (.slice none 0 0), 1, 24) := by kernel_rfl

/-- A piece of a text. -/
theorem PReads.piece {w : World} {b o cap : Nat} {ts : List Tk} (h : PReads w (.slice (some ⟨b, o, none⟩) ts.length cap) ts) {i j : Nat} (hij : i ≤ j) (hj : j ≤ ts.length) (hi : i < ts.length) : PReads w (.slice (some ⟨b, o + i * 4, none⟩) (j - i) (cap - i)) ((ts.take j).drop i) := by
  obtain ⟨ad, cap', e, hc, hm, h⟩ := h
  injection e with e1 _ e3
  subst e1 e3
  obtain ⟨b', o', e', hlt, hcell⟩ := h (by omega)
  injection e' with e'
  injection e' with e1 e2 _
  subst e1 e2
  have hl : ((ts.take j).drop i).length = j - i := by simp; omega
  refine ⟨some ⟨b, o + i * 4, none⟩, cap - i, by rw [hl], by rw [hl]; omega, by omega, fun _ => ⟨b, o + i * 4, rfl, hlt, fun k hk => ?_⟩⟩
  rw [hl] at hk
  have := hcell (i + k) (by omega)
  rw [show o + (i + k) * 4 = o + i * 4 + k * 4 by omega] at this
  simpa using this

theorem split_nil (ad : Option Addr) (cap : Nat) (w : World) : Calls Tryz.prog 85 #[.slice ad 0 cap] w fun r w' => r = .returned (.slice none 0 0) ∧ w' = w := by
  go_enter Tryz.func85, Tryz.ntmps85
  go_wp2
  go_ret
  exact ⟨rfl, rfl⟩

/-- A row of texts, each one's tokens. -/
def TRow (w W : World) (base : Nat) (ov : Value) (vs : List Value) (ps : List (List Tk)) : Prop := W.ownsRow base 81 1 ov vs.length vs ∧ vs.length = ps.length ∧ ∀ i (h : i < vs.length) (h' : i < ps.length), PReads w vs[i] ps[i]

theorem TRow.app {w w1 : World} {oa : Option Addr} {oc : Nat} {vs : List Value} {done : List (List Tk)} (hr : TRow w w1 w.heap.size (.slice oa vs.length oc) vs done) (hb : Below w.heap.size w w1) (hl : vs.length ≤ 100000) (pa : Option Addr) (pn pc : Nat) (piece : List Tk) (hp : PReads w (.slice pa pn pc) piece) :
    ∃ la lc w2, (∀ ty, (Builtin.append_ #[169, 169] ty #[.slice oa vs.length oc, .slice (some ⟨w1.heap.size, 0, none⟩) 1 1]).run Tryz.prog (w1.alloc (.cells #[.slice pa pn pc] 81)) = .ok (.slice la (vs.length + 1) lc) w2) ∧
      TRow w w2 w.heap.size (.slice la (vs.length + 1) lc) (vs ++ [.slice pa pn pc]) (done ++ [piece]) ∧ Below w.heap.size w w2 := by
  have hrow := hr.1.alloc (.cells #[.slice pa pn pc] 81)
  obtain ⟨v', w2, happ, hr', hgr⟩ := app1 169 81 _ 1 24 Tryz.underlying169 infoTx rfl (by decide) (by decide) hrow (by have := hb.size; go_size) [.slice pa pn pc] rfl w1.heap.size (new_at _ _ rfl) (by intro u hu; simp at hu; subst hu; rfl) (by omega)
  obtain ⟨la, lc, rfl⟩ := row_shape hr'
  refine ⟨la, lc, w2, happ, ⟨by simpa using hr', by simp [hr.2.1], fun k h1 h2 => ?_⟩, ?_⟩
  · by_cases hk : k < vs.length
    · have hk2 : k < done.length := by rw [← hr.2.1]; exact hk
      rw [List.getElem_append_left hk, List.getElem_append_left hk2]
      exact hr.2.2 k hk hk2
    · have e : k = vs.length := by simp at h1; omega
      subst e
      have e2 : done.length = vs.length := hr.2.1.symm
      simp only [List.getElem_append_right (Nat.le_refl _), List.getElem_append_right (Nat.le_of_eq e2), Nat.sub_self, List.getElem_cons_zero, e2]
      exact hp
  · exact (hb.alloc hb.size _).grown hgr (by have := hb.size; go_size) (fun k hk => (hrow.lt k hk).1)
theorem PReads.none (w : World) (ad : Option Addr) (c : Nat) (h : c ≤ maxLen) : PReads w (.slice ad 0 c) [] := ⟨ad, c, rfl, Nat.zero_le _, h, fun h => by simp at h⟩

theorem splitT_comma {cur r : List Tk} {x : Tk} {done : List (List Tk)} {X : List (List Tk)} (h : X = done ++ splitT cur (x :: r)) (hx : isComma x = true) : X = (done ++ [cur]) ++ splitT [] r := by
  rw [h, splitT, if_pos hx]; simp
theorem splitT_other {cur r : List Tk} {x : Tk} {done : List (List Tk)} {X : List (List Tk)} (h : X = done ++ splitT cur (x :: r)) (hx : isComma x = false) : X = done ++ splitT (cur ++ [x]) r := by
  rw [h, splitT, if_neg (by simp [hx])]

set_option maxHeartbeats 4000000 in
set_option maxRecDepth 100000 in
theorem split_some (b o cap : Nat) (ts : List Tk) (w : World) (h : PReads w (.slice (some ⟨b, o, none⟩) ts.length cap) ts) (h0 : 0 < ts.length) (hn : ts.length ≤ 100000) :
    Calls Tryz.prog 85 #[.slice (some ⟨b, o, none⟩) ts.length cap] w fun r w' => (∃ ov vs, r = .returned ov ∧ TRow w w' w.heap.size ov vs (splitT [] ts)) ∧ Below w.heap.size w w' := by
  have HT := Lib.hid h
  obtain ⟨ad, cap', e, hc, hmx, hcl⟩ := h
  injection e with e1 _ e3
  subst e1 e3
  obtain ⟨b', o', e', hlt, hcell⟩ := hcl h0
  injection e' with e'
  injection e' with e1 e2 _
  subst e1 e2
  have HC := Lib.hid hcell
  clear hcl hcell
  have hne : ((ts.length : Int) == 0) = false := beq_eq_false_iff_ne.2 (by omega)
  unfold maxLen at hmx
  go_enter Tryz.func85, Tryz.ntmps85
  go_wp2_with fail
  go_loopw [3, 4, 12] (fun ov fv iv wr => ∃ (i f : Nat) (vs : List Value) (done : List (List Tk)), f ≤ i ∧ i ≤ ts.length ∧ iv = .int .i64 i ∧ fv = .int .i64 f ∧ Hid (TRow w wr w.heap.size ov vs done) ∧ Hid (Below w.heap.size w wr) ∧ vs.length ≤ i ∧ Hid (splitT [] ts = done ++ splitT ((ts.take i).drop f) (ts.drop i))) (fun _ _ iv _ => ts.length - (intOf iv).toNat)
  case atStart => exact ⟨0, 0, [], [], Nat.le_refl _, Nat.zero_le _, rfl, rfl, ⟨World.ownsRow_nil _ _ _ _, rfl, fun i h => by simp at h⟩, Below.refl _ _, Nat.le_refl _, by simp [Hid]⟩
  case round =>
    obtain ⟨i, f, vs, done, hf, hi, rfl, rfl, HR, HB, hvl, HS⟩ := hrel
    by_cases hlt2 : i < ts.length
    · have hi' : (i : Int) < ts.length := by omega
      obtain ⟨k0, k1, k2, k3⟩ := HC.out i hlt2
      have hz := HB.out.size
      replace k0 := (HB.out.cell (by show b < w.heap.size; exact hlt)).trans k0
      replace k1 := (HB.out.cell (by show b < w.heap.size; exact hlt)).trans k1
      replace k2 := (HB.out.cell (by show b < w.heap.size; exact hlt)).trans k2
      replace k3 := (HB.out.cell (by show b < w.heap.size; exact hlt)).trans k3
      have hb2 : b < wr.heap.size := by omega
      obtain ⟨x, hx⟩ : ∃ x, ts[i]'hlt2 = x := ⟨_, rfl⟩
      have HD : Hid (ts.drop i = x :: ts.drop (i + 1)) := by rw [← hx]; exact List.drop_eq_getElem_cons hlt2
      have HTK : Hid ((ts.take (i + 1)).drop f = (ts.take i).drop f ++ [x]) := by
        unfold Hid
        rw [List.take_succ_eq_append_getElem hlt2, hx, List.drop_append_of_le_length (by simp; omega)]
      have HPC : Hid (PReads w (.slice (some ⟨b, o + f * 4, none⟩) (i - f) (cap - f)) ((ts.take i).drop f)) := HT.out.piece hf hi (by omega)
      rw [hx] at k0 k1 k2
      clear hx
      obtain ⟨xk, xn, xt⟩ := x
      simp only at k0 k1 k2
      have HCM := Lib.hid fun W => comma_any xk xn xt W
      have HIC : Hid (isComma ⟨xk, xn, xt⟩ = (xk == 3 && xt.toList == [44])) := rfl
      unfold tokV at HCM
      obtain ⟨oa, oc, hov⟩ := row_shape HR.out.1
      subst hov
      cases hcm : (xk == 3 && xt.toList == [44])
      · rw [hcm] at HCM HIC
        have HS2 : Hid (splitT [] ts = done ++ splitT ((ts.take (i + 1)).drop f) (ts.drop (i + 1))) := by
          unfold Hid
          rw [HTK.out]
          exact splitT_other (by rw [← HD.out]; exact HS.out) HIC.out
        go_wp2_with (go_at_call 111; refine (HCM.out _).mono ?_; rintro e w1 ⟨rfl, hb1⟩; have HB1 : Hid (Below w.heap.size w w1) := Below.trans (by have hb := HB.out; go_grown) (hb1.mono (by go_size)); have HR1 : Hid (TRow w w1 w.heap.size (.slice oa vs.length oc) vs done) := ⟨Sc.owns_below (HR.out.1.alloc _) hb1 (Nat.le_refl _), HR.out.2⟩; clear hb1)
        exact ⟨⟨i + 1, f, vs, done, by omega, by omega, by go_num, rfl, HR1, HB1, by omega, HS2⟩, by simp [intOf]; omega⟩
      · rw [hcm] at HCM HIC
        have HS2 : Hid (splitT [] ts = (done ++ [(ts.take i).drop f]) ++ splitT ((ts.take (i + 1)).drop (i + 1)) (ts.drop (i + 1))) := by
          unfold Hid
          have e : (ts.take (i + 1)).drop (i + 1) = [] := List.drop_eq_nil_of_le (by simp; omega)
          rw [e]
          exact splitT_comma (by rw [← HD.out]; exact HS.out) HIC.out
        have hfi : (f : Int) ≤ i := by omega
        have hic : (i : Int) ≤ cap := by omega
        have hcf : ¬ cap - f = 0 := by omega
        go_wp2_with (first
          | (go_at_call 111; refine (HCM.out _).mono ?_; rintro e w1 ⟨rfl, hb1⟩; have HB1 : Hid (Below w.heap.size w w1) := Below.trans (by have hb := HB.out; go_grown) (hb1.mono (by go_size)); have HR1 : Hid (TRow w w1 w.heap.size (.slice oa vs.length oc) vs done) := ⟨Sc.owns_below (HR.out.1.alloc _) hb1 (Nat.le_refl _), HR.out.2⟩; obtain ⟨la, lc, w2, happ, hr2, hb2⟩ := HR1.out.app HB1.out (by omega) _ _ _ _ HPC.out; have HA := Lib.hid happ; have HR2 := Lib.hid hr2; have HB2 := Lib.hid hb2; clear hb1 happ hr2 hb2)
          | (at_builtin; refine wpList_app_eq rfl _ _ _ _ rfl _ _ rfl rfl HA.out ?_))
        exact ⟨⟨i + 1, i + 1, _, _, Nat.le_refl _, by omega, by go_num, by go_num, HR2, HB2, by simp; omega, HS2⟩, by simp [intOf]; omega⟩
    · obtain rfl : i = ts.length := by omega
      have hi' : ¬ ((ts.length : Nat) : Int) < ts.length := by omega
      obtain ⟨oa, oc, hov⟩ := row_shape HR.out.1
      subst hov
      have hfi : (f : Int) ≤ ts.length := by omega
      have hic : (ts.length : Int) ≤ cap := by omega
      have HE : Hid (splitT [] ts = done ++ [(ts.take ts.length).drop f]) := by
        have := HS.out
        rw [List.drop_length] at this
        exact this
      have hmx' : cap ≤ maxLen := by unfold maxLen; omega
      by_cases hcf : cap - f = 0
      · have e1 : f = ts.length := by omega
        have e2 : ts.length - f = 0 := by omega
        have HP : Hid (PReads w (.slice (some ⟨b, o, none⟩) (ts.length - f) 0) ((ts.take ts.length).drop f)) := by
          unfold Hid
          rw [List.take_length, e1, List.drop_length, Nat.sub_self]
          exact PReads.none w _ _ (Nat.zero_le _)
        obtain ⟨la, lc, w2, happ, hr2, hb2⟩ := HR.out.app HB.out (by omega) _ _ _ _ HP.out
        have HA := Lib.hid happ
        have HR2 := Lib.hid hr2
        have HB2 := Lib.hid hb2
        clear happ hr2 hb2 e1 e2
        go_wp2_with (at_builtin; refine wpList_app_eq rfl _ _ _ _ rfl _ _ rfl rfl HA.out ?_)
        go_ret
        refine ⟨?_, HB2.out⟩
        rw [HE.out]
        exact ⟨_, rfl, _, HR2.out⟩
      · have HP : Hid (PReads w (.slice (some ⟨b, o + f * 4, none⟩) (ts.length - f) (cap - f)) ((ts.take ts.length).drop f)) := by
          by_cases hfl : f < ts.length
          · exact HT.out.piece hf (Nat.le_refl _) hfl
          · have e1 : f = ts.length := by omega
            unfold Hid
            rw [List.take_length, e1, List.drop_length, Nat.sub_self]
            exact PReads.none w _ _ (by omega)
        obtain ⟨la, lc, w2, happ, hr2, hb2⟩ := HR.out.app HB.out (by omega) _ _ _ _ HP.out
        have HA := Lib.hid happ
        have HR2 := Lib.hid hr2
        have HB2 := Lib.hid hb2
        clear happ hr2 hb2
        go_wp2_with (at_builtin; refine wpList_app_eq rfl _ _ _ _ rfl _ _ rfl rfl HA.out ?_)
        go_ret
        refine ⟨?_, HB2.out⟩
        rw [HE.out]
        exact ⟨_, rfl, _, HR2.out⟩

/-- What stands between commas of any text of tokens alone. -/
theorem split_any (v : Value) (ts : List Tk) (w : World) (h : PReads w v ts) (hn : ts.length ≤ 100000) :
    Calls Tryz.prog 85 #[v] w fun r w' => (∃ ov vs, r = .returned ov ∧ TRow w w' w.heap.size ov vs (piecesT ts)) ∧ Below w.heap.size w w' := by
  obtain ⟨ad, cap, rfl, hc, hm, hcl⟩ := id h
  cases ts with
  | nil =>
    refine (split_nil ad cap w).mono ?_
    rintro e w' ⟨rfl, rfl⟩
    exact ⟨⟨_, [], rfl, World.ownsRow_nil _ _ _ _, rfl, fun i h => by simp at h⟩, Below.refl _ _⟩
  | cons x r =>
    obtain ⟨b, o, rfl, hlt, _⟩ := hcl (by simp)
    refine (split_some b o cap (x :: r) w h (by simp) hn).mono ?_
    rintro e w' ⟨h1, h2⟩
    exact ⟨by simpa [piecesT] using h1, h2⟩

end Go.Proofs.YtagkmgdjkailkaaGreatDoor
