/- The contract of scan's Tokens. -/
import Derived.Test.YtajeijhmlkbjgaaDoorScanI
import Derived.Lib.IndexBytes
import Derived.Lib.SmallJoins
namespace Go.Proofs.YtajeijhmlkbjgaaDoor
open Go.RowKit

theorem nextT_cons (c : UInt8) (r : List UInt8) : nextT (c :: r) = if pb letterB c = true then .tok ⟨1, 0, (c :: r).takeWhile (pb wordB)⟩ ((c :: r).dropWhile (pb wordB))
    else if pb digitB c = true then
      match numL ((c :: r).takeWhile (pb numB)) with
      | none => .bad
      | some n => .tok ⟨2, n, []⟩ ((c :: r).dropWhile (pb numB))
    else if signN (c :: r) = 0 then .bad
    else .tok ⟨3, 0, (c :: r).take (signN (c :: r))⟩ ((c :: r).drop (signN (c :: r))) := rfl

theorem pb_no {p : Int → Bool} {c : UInt8} (h : p c.toNat = false) : ¬ pb p c = true := by
  unfold pb
  rw [h]
  simp
theorem pb_yes {p : Int → Bool} {c : UInt8} (h : p c.toNat = true) : pb p c = true := h

theorem next_any (s : ByteArray) (B : Nat) (w : World) (hs : s.size ≤ 281474976710656) (hG0 : Glob w) (hB : 10 ≤ B) (hR : Rd w B s) :
    Calls Tryd.prog 60 #[.pointer (some ⟨B + 2, 0, none⟩), .pointer (some ⟨B, 0, none⟩), .pointer (some ⟨B + 1, 0, none⟩)] w fun e w' =>
      e = .returned (nxtV (nextT (s.data.toList.dropWhile (pb blankB)))) ∧ (∀ t r, nextT (s.data.toList.dropWhile (pb blankB)) = .tok t r → ∃ s' : ByteArray, s'.data.toList = r ∧ Rd w' B s') ∧ w.grownBy w' (some B) := by
  cases h : s.data.toList.dropWhile (pb blankB) with
  | nil =>
    refine (next_fin s B w (by omega) hR h).mono ?_
    rintro e w' ⟨rfl, hg⟩
    exact ⟨rfl, fun t r h => (by simp [nextT] at h), hg⟩
  | cons c r =>
    cases hl : letterB c.toNat
    · cases hd : digitB c.toNat
      · refine (next_sign s B w hs hR c r (signN (c :: r)) _ _ rfl rfl h rfl hl hd).mono ?_
        rintro e w' ⟨rfl, ⟨s', hs', hR'⟩, hg⟩
        have e1 : nextT (c :: r) = if signN (c :: r) = 0 then .bad else .tok ⟨3, 0, (c :: r).take (signN (c :: r))⟩ ((c :: r).drop (signN (c :: r))) := by
          rw [nextT_cons, if_neg (pb_no hl), if_neg (pb_no hd)]
        by_cases h0 : signN (c :: r) = 0
        · rw [if_pos h0] at e1
          rw [e1]
          refine ⟨?_, fun t r h => (by cases h), hg⟩
          rw [h0]
          rfl
        · rw [if_neg h0] at e1
          rw [e1]
          refine ⟨?_, fun t r' h => ?_, hg⟩
          · rw [if_neg h0, if_neg h0]
            rfl
          · injection h with _ h2
            exact ⟨s', h2 ▸ hs', hR'⟩
      · refine (next_num s B w hs hG0 hB hR c r h hl hd).mono ?_
        rintro e w' ⟨rfl, ⟨s', hs', hR'⟩, hg⟩
        have e1 : nextT (c :: r) = match numL ((c :: r).takeWhile (pb numB)) with
            | none => .bad
            | some n => .tok ⟨2, n, []⟩ ((c :: r).dropWhile (pb numB)) := by
          rw [nextT_cons, if_neg (pb_no hl), if_pos (pb_yes hd)]
        rw [e1, numV]
        cases hn : numL ((c :: r).takeWhile (pb numB)) with
        | none => exact ⟨rfl, fun t r h => (by cases h), hg⟩
        | some n =>
          refine ⟨rfl, fun t r' h => ?_, hg⟩
          injection h with _ h2
          exact ⟨s', h2 ▸ hs', hR'⟩
    · refine (next_word s B w (by omega) hR c r h hl).mono ?_
      rintro e w' ⟨rfl, ⟨s', hs', hR'⟩, hg⟩
      have e1 : nextT (c :: r) = .tok ⟨1, 0, (c :: r).takeWhile (pb wordB)⟩ ((c :: r).dropWhile (pb wordB)) := by
        rw [nextT_cons, if_pos (pb_yes hl)]
      rw [e1]
      refine ⟨rfl, fun t r' h => ?_, hg⟩
      injection h with _ h2
      exact ⟨s', h2 ▸ hs', hR'⟩

theorem nextT_kind {l r : List UInt8} {t : Tok} (h : nextT l = .tok t r) : (t.kind == 0) = false := by
  unfold nextT at h
  split at h
  · cases h
  · split at h
    · injection h with h1 _; subst h1; rfl
    · split at h
      · split at h
        · cases h
        · injection h with h1 _; subst h1; rfl
      · split at h
        · cases h
        · injection h with h1 _; subst h1; rfl

theorem cut_code (l : List UInt8) : (Lib.cut l [59]).1 = code l := by
  unfold Lib.cut code
  rw [Lib.index_one]
  induction l with
  | nil => rfl
  | cons b r ih =>
    unfold Lib.indexByte
    by_cases hb : b = 59
    · subst hb; rfl
    · have hb1 : (b == 59) = false := by simpa using hb
      have hb2 : (b != 59) = true := by simp [hb]
      have hge := Lib.indexByte_ge r 59
      rw [List.takeWhile_cons, if_pos hb2, ← ih]
      simp only [hb1, Bool.false_eq_true, if_false]
      by_cases hi : Lib.indexByte r 59 = -1
      · simp [hi]
      · have h1 : (Lib.indexByte r 59 == -1) = false := by simpa using hi
        have h2 : 0 ≤ Lib.indexByte r 59 := by omega
        simp only [h1, Bool.false_eq_true, if_false]
        rw [if_pos (by omega), if_pos h2]
        show List.take (Lib.indexByte r 59 + 1).toNat (b :: r) = b :: List.take (Lib.indexByte r 59).toNat r
        rw [show (Lib.indexByte r 59 + 1).toNat = (Lib.indexByte r 59).toNat + 1 by omega]
        rfl

theorem code_len (l : List UInt8) : (code l).length ≤ l.length := by
  unfold code
  exact (List.takeWhile_sublist _).length_le

theorem info84 : (Tryd.prog.info? 84).map (fun i => (i.zero, i.size, i.bytes)) = some (some (.agg #[.int .i64 0, .int .i64 0, .string ⟨#[]⟩]), 3, 32) := by kernel_rfl

def boxLen (w : World) (B : Nat) : Nat := match w.cell? ⟨B, 0, none⟩ with
  | some (.string s) => s.size
  | _ => 0

theorem Rd.boxLen {w : World} {B : Nat} {s : ByteArray} (h : Rd w B s) : boxLen w B = s.size := by
  unfold YtajeijhmlkbjgaaDoor.boxLen
  rw [h.c0]

theorem tokens_much (s : ByteArray) (w : World) (h : 80 < s.size) :
    Calls Tryd.prog 27 #[.string s] w fun e w' => e = .returned (.tuple #[.slice none 0 0, .int .i64 4]) ∧ w' = w := by
  have h' : (80 : Int) < s.size := by omega
  go_enter Tryd.func27, Tryd.ntmps27
  go_wp2
  go_ret2
  exact ⟨rfl, rfl⟩

end Go.Proofs.YtajeijhmlkbjgaaDoor
