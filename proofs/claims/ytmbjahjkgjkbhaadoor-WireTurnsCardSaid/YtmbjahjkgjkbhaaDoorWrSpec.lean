/- What a message is, what is wrong with it, its bytes, and the message of bytes: functions of lists; no program in this text. -/
import Derived.Test.YtmbjahjkgjkbhaaDoorObCore
namespace Go.Proofs.YtmbjahjkgjkbhaaDoor
open Go.RowKit

structure Ms where
  kind : Int
  worker : Int
  unit : Int
  turn : Int
  err : Int
  place : Int
  data : List UInt8

/-- What goes with a message's kind. -/
def fitsM (m : Ms) : Prop := if m.kind = 3 then ((0 < m.err ∧ m.err ≤ 14) ∧ 0 ≤ m.place ∧ m.place < 65536) ∧ m.data.length = 0 else m.err = 0 ∧ m.place = 0
instance (m : Ms) : Decidable (fitsM m) := by unfold fitsM; infer_instance

def rangeM (m : Ms) : Prop := (0 ≤ m.worker ∧ m.worker < 3) ∧ (0 ≤ m.unit ∧ m.unit < 4) ∧ 0 ≤ m.turn ∧ m.turn < 65536
instance (m : Ms) : Decidable (rangeM m) := by unfold rangeM; infer_instance

/-- What is wrong with a message, or 0. -/
def wrongM (m : Ms) : Int :=
  if m.kind ≠ 1 ∧ m.kind ≠ 2 ∧ m.kind ≠ 3 then 1
  else if ¬ rangeM m then 3
  else if ¬ fitsM m then 8
  else if 1048576 < m.data.length then 4
  else 0

/-- The sum of bytes, from a number on. -/
def sumF (n : Int) (l : List UInt8) : Int := l.foldl (fun n c => (31 * n + c.toNat + 1) % 65521) n
def sumL (l : List UInt8) : Int := sumF 1 l

theorem sumF_bd {n : Int} (l : List UInt8) (h : 0 ≤ n ∧ n < 65521) : 0 ≤ sumF n l ∧ sumF n l < 65521 := by
  induction l generalizing n with
  | nil => exact h
  | cons c l ih => exact ih ⟨Int.emod_nonneg _ (by decide), Int.emod_lt_of_pos _ (by decide)⟩
theorem sumL_bd (l : List UInt8) : 0 ≤ sumL l ∧ sumL l < 65521 := sumF_bd l (by decide)
theorem sumF_snoc (n : Int) (l : List UInt8) (c : UInt8) : sumF n (l ++ [c]) = (31 * sumF n l + c.toNat + 1) % 65521 := by simp [sumF]
theorem sumL_take {l : List UInt8} {k : Nat} (h : k < l.length) : sumL (l.take (k + 1)) = (31 * sumL (l.take k) + l[k].toNat + 1) % 65521 := by
  rw [List.take_succ_eq_append_getElem h]; exact sumF_snoc _ _ _
theorem sumF_app (n : Int) (a b : List UInt8) : sumF n (a ++ b) = sumF (sumF n a) b := by simp [sumF]
/-- No two sums that part come together again. -/
theorem sumF_inj (l : List UInt8) {a b : Int} (ha : 0 ≤ a ∧ a < 65521) (hb : 0 ≤ b ∧ b < 65521) (h : sumF a l = sumF b l) : a = b := by
  induction l generalizing a b with
  | nil => exact h
  | cons c l ih =>
    have := ih (a := (31 * a + c.toNat + 1) % 65521) (b := (31 * b + c.toNat + 1) % 65521) ⟨Int.emod_nonneg _ (by decide), Int.emod_lt_of_pos _ (by decide)⟩ ⟨Int.emod_nonneg _ (by decide), Int.emod_lt_of_pos _ (by decide)⟩ h
    omega
/-- One byte that is another one makes another sum. -/
theorem sumL_one (a b : List UInt8) (x y : UInt8) (h : sumL (a ++ x :: b) = sumL (a ++ y :: b)) : x = y := by
  unfold sumL at h
  rw [sumF_app, sumF_app] at h
  have hs := sumF_bd a (n := 1) (by decide)
  have := sumF_inj b (a := (31 * sumF 1 a + x.toNat + 1) % 65521) (b := (31 * sumF 1 a + y.toNat + 1) % 65521) ⟨Int.emod_nonneg _ (by decide), Int.emod_lt_of_pos _ (by decide)⟩ ⟨Int.emod_nonneg _ (by decide), Int.emod_lt_of_pos _ (by decide)⟩ h
  have hx := x.toNat_lt
  have hy := y.toNat_lt
  exact UInt8.toNat_inj.1 (by omega)

def be2 (n : Int) : List UInt8 := [lowB (n / 256), lowB n]
/-- What stands ahead of the data, and what the sum is of. -/
def headM (m : Ms) : List UInt8 := [lowB m.kind, lowB m.worker, lowB m.unit, lowB (m.turn / 256), lowB m.turn, lowB m.err, lowB (m.place / 256), lowB m.place, lowB ((m.data.length : Int) / 16777216), lowB ((m.data.length : Int) / 65536), lowB ((m.data.length : Int) / 256), lowB (m.data.length : Int)]
def textM (m : Ms) : List UInt8 := headM m ++ m.data
def bytesM (m : Ms) : List UInt8 := textM m ++ be2 (sumL (textM m))
theorem headM_len (m : Ms) : (headM m).length = 12 := rfl
theorem textM_len (m : Ms) : (textM m).length = 12 + m.data.length := by rw [textM, List.length_append, headM_len]
theorem bytesM_len (m : Ms) : (bytesM m).length = 14 + m.data.length := by rw [bytesM, List.length_append, textM_len]; simp [be2]; omega

/-- The byte at a place, 0 where there is none. -/
def nB (b : List UInt8) (k : Nat) : Int := byF b k
def n2 (b : List UInt8) (k : Nat) : Int := nB b k * 256 + nB b (k + 1)
def n4 (b : List UInt8) (k : Nat) : Int := ((nB b k * 256 + nB b (k + 1)) * 256 + nB b (k + 2)) * 256 + nB b (k + 3)
theorem nB_bd (b : List UInt8) (k : Nat) : 0 ≤ nB b k ∧ nB b k ≤ 255 := byF_byte b k
/-- The message that bytes tell, whatever is wrong with it. -/
def msgOf (b : List UInt8) : Ms := ⟨nB b 0, nB b 1, nB b 2, n2 b 3, nB b 5, n2 b 6, (b.drop 12).take (b.length - 14)⟩
def goodB (b : List UInt8) : Prop := (b.length : Int) = 14 + n4 b 8 ∧ sumL (b.take (b.length - 2)) = n2 b (b.length - 2)
instance (b : List UInt8) : Decidable (goodB b) := by unfold goodB; infer_instance
def parseM (b : List UInt8) : Except Int Ms := if goodB b then (if wrongM (msgOf b) = 0 then .ok (msgOf b) else .error (wrongM (msgOf b))) else .error 2

theorem n4_nonneg (b : List UInt8) (k : Nat) : 0 ≤ n4 b k ∧ n4 b k < 4294967296 := by
  have h0 := nB_bd b k
  have h1 := nB_bd b (k + 1)
  have h2 := nB_bd b (k + 2)
  have h3 := nB_bd b (k + 3)
  unfold n4
  omega
theorem good_len {b : List UInt8} (h : goodB b) : 14 ≤ b.length ∧ b.length < 4294967310 := by
  have := n4_nonneg b 8
  have := h.1
  omega
theorem msgOf_len {b : List UInt8} (h : 14 ≤ b.length) : (msgOf b).data.length = b.length - 14 := by
  show ((b.drop 12).take (b.length - 14)).length = _
  rw [List.length_take, List.length_drop]; omega

theorem nB_app (a b : List UInt8) (k : Nat) (h : k < a.length) : nB (a ++ b) k = nB a k := by
  unfold nB byF
  simp [List.getD_eq_getElem?_getD, List.getElem?_append_left h]
theorem nB_app2 (a b : List UInt8) (k : Nat) : nB (a ++ b) (a.length + k) = nB b k := by
  unfold nB byF
  rw [List.getD_eq_getElem?_getD, List.getD_eq_getElem?_getD, List.getElem?_append_right (by omega), Nat.add_sub_cancel_left]

theorem right_of {m : Ms} (h : wrongM m = 0) : (m.kind = 1 ∨ m.kind = 2 ∨ m.kind = 3) ∧ rangeM m ∧ fitsM m ∧ m.data.length ≤ 1048576 := by
  unfold wrongM at h
  split at h
  · cases h
  · split at h
    · cases h
    · split at h
      · cases h
      · split at h
        · cases h
        · rename_i h1 h2 h3 h4
          exact ⟨by omega, Decidable.not_not.1 h2, Decidable.not_not.1 h3, by omega⟩
theorem right_err {m : Ms} (h : wrongM m = 0) : 0 ≤ m.err ∧ m.err ≤ 14 ∧ 0 ≤ m.place ∧ m.place < 65536 := by
  have := (right_of h).2.2.1
  unfold fitsM at this
  split at this <;> omega
theorem wrongM_pos (m : Ms) : wrongM m = 0 ∨ wrongM m = 1 ∨ wrongM m = 3 ∨ wrongM m = 8 ∨ wrongM m = 4 := by
  unfold wrongM
  repeat' split
  all_goals simp

theorem nB_low (n : Int) (r : List UInt8) (h : 0 ≤ n ∧ n < 256) : nB (lowB n :: r) 0 = n := by
  have : nB (lowB n :: r) 0 = ((lowB n).toNat : Int) := rfl
  rw [this, lowB_nat]; omega

/-- There, and back. -/
theorem head_back (m : Ms) (h : wrongM m = 0) (r : List UInt8) : nB (headM m ++ r) 0 = m.kind ∧ nB (headM m ++ r) 1 = m.worker ∧ nB (headM m ++ r) 2 = m.unit ∧ n2 (headM m ++ r) 3 = m.turn ∧ nB (headM m ++ r) 5 = m.err ∧ n2 (headM m ++ r) 6 = m.place ∧ n4 (headM m ++ r) 8 = m.data.length := by
  have h1 := right_of h
  have h2 := right_err h
  have h3 := h1.2.1
  unfold rangeM at h3
  have e : ∀ n : Int, ((lowB n).toNat : Int) = n % 256 := lowB_nat
  have g0 : nB (headM m ++ r) 0 = m.kind % 256 := e _
  have g1 : nB (headM m ++ r) 1 = m.worker % 256 := e _
  have g2 : nB (headM m ++ r) 2 = m.unit % 256 := e _
  have g3 : nB (headM m ++ r) 3 = m.turn / 256 % 256 := e _
  have g4 : nB (headM m ++ r) 4 = m.turn % 256 := e _
  have g5 : nB (headM m ++ r) 5 = m.err % 256 := e _
  have g6 : nB (headM m ++ r) 6 = m.place / 256 % 256 := e _
  have g7 : nB (headM m ++ r) 7 = m.place % 256 := e _
  have g8 : nB (headM m ++ r) 8 = (m.data.length : Int) / 16777216 % 256 := e _
  have g9 : nB (headM m ++ r) 9 = (m.data.length : Int) / 65536 % 256 := e _
  have g10 : nB (headM m ++ r) 10 = (m.data.length : Int) / 256 % 256 := e _
  have g11 : nB (headM m ++ r) 11 = (m.data.length : Int) % 256 := e _
  unfold n2 n4
  simp only [g0, g1, g2, g3, g4, g5, g6, g7, g8, g9, g10, g11]
  obtain ⟨hk, _, _, hd⟩ := h1
  refine ⟨by omega, by omega, by omega, by omega, by omega, by omega, by omega⟩

theorem n2_end (t : List UInt8) (n : Int) (h : 0 ≤ n ∧ n < 65536) : n2 (t ++ be2 n) t.length = n := by
  have e : ∀ n : Int, ((lowB n).toNat : Int) = n % 256 := lowB_nat
  unfold n2
  have g0 : nB (t ++ be2 n) t.length = n / 256 % 256 := by
    have := nB_app2 t (be2 n) 0
    rw [Nat.add_zero] at this
    rw [this]; exact e _
  have g1 : nB (t ++ be2 n) (t.length + 1) = n % 256 := by rw [nB_app2]; exact e _
  rw [g0, g1]; omega

theorem parse_bytesM (m : Ms) (h : wrongM m = 0) : parseM (bytesM m) = .ok m := by
  have hh := head_back m h (m.data ++ be2 (sumL (textM m)))
  have eb : bytesM m = headM m ++ (m.data ++ be2 (sumL (textM m))) := by rw [bytesM, textM, List.append_assoc]
  rw [← eb] at hh
  have hl := bytesM_len m
  have ht := textM_len m
  have hs := sumL_bd (textM m)
  have e2 : (bytesM m).length - 2 = (textM m).length := by omega
  have hg : goodB (bytesM m) := by
    refine ⟨by rw [hl, hh.2.2.2.2.2.2]; omega, ?_⟩
    rw [e2]
    have e3 : (bytesM m).take (textM m).length = textM m := List.take_left
    rw [e3]
    exact (n2_end _ _ (by omega)).symm
  have hm : msgOf (bytesM m) = m := by
    unfold msgOf
    rw [hh.1, hh.2.1, hh.2.2.1, hh.2.2.2.1, hh.2.2.2.2.1, hh.2.2.2.2.2.1, hl]
    have : (List.drop 12 (bytesM m)).take (14 + m.data.length - 14) = m.data := by
      rw [eb]
      have : List.drop 12 (headM m ++ (m.data ++ be2 (sumL (textM m)))) = m.data ++ be2 (sumL (textM m)) := rfl
      rw [this, Nat.add_sub_cancel_left]
      exact List.take_left
    rw [this]
  unfold parseM
  rw [if_pos hg, hm, if_pos h]

theorem low_nB (l : List UInt8) (k : Nat) (h : k < l.length) : lowB (nB l k) = l[k] := by
  have : nB l k = ((l[k]).toNat : Int) := by unfold nB byF; simp [List.getD_eq_getElem?_getD, h]
  rw [this, lowB_of]
theorem low_eq {n : Int} {l : List UInt8} {k : Nat} (h : k < l.length) (e : n % 256 = nB l k) : lowB n = l[k] := by
  rw [← low_nB l k h]
  unfold lowB
  rw [e]
  have := nB_bd l k
  rw [show nB l k % 256 = nB l k by omega]
theorem be2_n2 (l : List UInt8) (k : Nat) (h : k + 1 < l.length) : be2 (n2 l k) = [l[k], l[k + 1]] := by
  have h0 := nB_bd l k
  have h1 := nB_bd l (k + 1)
  unfold be2 n2
  rw [low_eq (l := l) (k := k) (by omega) (by omega), low_eq (l := l) (k := k + 1) h (by omega)]

/-- Bytes that are read are their message's. -/
theorem bytes_parseM {b : List UInt8} {m : Ms} (h : parseM b = .ok m) : wrongM m = 0 ∧ bytesM m = b := by
  unfold parseM at h
  split at h
  case isFalse => cases h
  rename_i hg
  split at h
  case isFalse => cases h
  rename_i hw
  injection h with h
  subst h
  refine ⟨hw, ?_⟩
  have hl := good_len hg
  have hd := msgOf_len hl.1
  have h4 := n4_nonneg b 8
  have hlen : ((msgOf b).data.length : Int) = n4 b 8 := by have := hg.1; omega
  have hhead : headM (msgOf b) = b.take 12 := by
    have k0 := nB_bd b 0
    have k1 := nB_bd b 1
    have k2 := nB_bd b 2
    have k3 := nB_bd b 3
    have k4 := nB_bd b 4
    have k5 := nB_bd b 5
    have k6 := nB_bd b 6
    have k7 := nB_bd b 7
    have k8 := nB_bd b 8
    have k9 := nB_bd b 9
    have k10 := nB_bd b 10
    have k11 := nB_bd b 11
    unfold headM
    rw [hlen]
    simp only [msgOf, n2, n4, Nat.reduceAdd]
    rw [low_eq (l := b) (k := 0) (by omega) (by omega), low_eq (l := b) (k := 1) (by omega) (by omega), low_eq (l := b) (k := 2) (by omega) (by omega), low_eq (l := b) (k := 3) (by omega) (by omega), low_eq (l := b) (k := 4) (by omega) (by omega), low_eq (l := b) (k := 5) (by omega) (by omega), low_eq (l := b) (k := 6) (by omega) (by omega), low_eq (l := b) (k := 7) (by omega) (by omega), low_eq (l := b) (k := 8) (by omega) (by omega), low_eq (l := b) (k := 9) (by omega) (by omega), low_eq (l := b) (k := 10) (by omega) (by omega), low_eq (l := b) (k := 11) (by omega) (by omega)]
    apply List.ext_getElem?
    intro i
    by_cases hi : i < 12
    · have : i = 0 ∨ i = 1 ∨ i = 2 ∨ i = 3 ∨ i = 4 ∨ i = 5 ∨ i = 6 ∨ i = 7 ∨ i = 8 ∨ i = 9 ∨ i = 10 ∨ i = 11 := by omega
      rw [List.getElem?_take_of_lt hi, List.getElem?_eq_getElem (l := b) (by omega)]
      rcases this with rfl | rfl | rfl | rfl | rfl | rfl | rfl | rfl | rfl | rfl | rfl | rfl <;> rfl
    · rw [List.getElem?_eq_none (by simp; omega), List.getElem?_eq_none (by simp; omega)]
  have htext : textM (msgOf b) = b.take (b.length - 2) := by
    unfold textM
    rw [hhead]
    show b.take 12 ++ (b.drop 12).take (b.length - 14) = _
    rw [show b.length - 14 = (b.length - 2) - 12 by omega, ← List.drop_take]
    have : List.take 12 b = List.take 12 (List.take (b.length - 2) b) := by rw [List.take_take, Nat.min_eq_left (by omega)]
    rw [this, List.take_append_drop]
  unfold bytesM
  rw [htext, hg.2, be2_n2 b (b.length - 2) (by omega)]
  have e1 : b.drop (b.length - 2) = [b[b.length - 2], b[b.length - 2 + 1]] := by
    rw [List.drop_eq_getElem_cons (by omega), List.drop_eq_getElem_cons (by omega), List.drop_eq_nil_of_le (by omega)]
  rw [← e1, List.take_append_drop]

theorem textM_at (m : Ms) (k : Nat) (hk : k < m.data.length) (h : 12 + k < (textM m).length) : (textM m)[12 + k] = m.data[k] := by
  have e : (textM m)[12 + k]? = m.data[k]? := by
    unfold textM
    rw [List.getElem?_append_right (by rw [headM_len]; omega), headM_len, Nat.add_sub_cancel_left]
  rw [List.getElem?_eq_getElem h, List.getElem?_eq_getElem hk] at e
  injection e
/-- One byte of the data that is another one: no message. -/
theorem parse_other (m : Ms) (k : Nat) (hk : k < m.data.length) (c : UInt8) (hc : c ≠ m.data[k]) : parseM ((bytesM m).set (12 + k) c) = .error 2 := by
  unfold parseM
  rw [if_neg]
  intro hg
  have ht := textM_len m
  have hl := bytesM_len m
  have hs := sumL_bd (textM m)
  have e0 : (bytesM m).set (12 + k) c = (textM m).set (12 + k) c ++ be2 (sumL (textM m)) := by
    unfold bytesM
    rw [List.set_append_left _ _ (by omega)]
  have h2 := hg.2
  have e1 : ((bytesM m).set (12 + k) c).length - 2 = ((textM m).set (12 + k) c).length := by rw [List.length_set, List.length_set]; omega
  rw [e1, e0, List.take_left, n2_end _ _ (by omega)] at h2
  have hlt : 12 + k < (textM m).length := by omega
  rw [List.set_eq_take_append_cons_drop, if_pos hlt] at h2
  have e2 : textM m = (textM m).take (12 + k) ++ (textM m)[12 + k] :: (textM m).drop (12 + k + 1) := by
    rw [← List.drop_eq_getElem_cons hlt, List.take_append_drop]
  have h3 : sumL ((textM m).take (12 + k) ++ c :: (textM m).drop (12 + k + 1)) = sumL ((textM m).take (12 + k) ++ (textM m)[12 + k] :: (textM m).drop (12 + k + 1)) := by rw [h2, ← e2]
  have := sumL_one _ _ _ _ h3
  apply hc
  rw [this]
  exact textM_at m k hk hlt

end Go.Proofs.YtmbjahjkgjkbhaaDoor
