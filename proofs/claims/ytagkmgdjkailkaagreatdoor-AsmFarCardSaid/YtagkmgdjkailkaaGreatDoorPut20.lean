/- Contracts of the small functions of package scan: bytes' classes by name, span, the closures cut and take. Contracts of the functions of package scan: blank, inNumber, a name's bytes, signLength, sign, reader and take. Contracts of the document's own kind, Has and Name. The contract of the document's own number. Contracts of the closures of package scan's reader: reader itself, take. -/
import Derived.Test.YtagkmgdjkailkaaGreatDoorPut5
import Derived.Test.YtagkmgdjkailkaaGreatDoorShelf
import Derived.Laws.EntriesVeiled
import Derived.Maps.AppendAt
import Derived.Deep.DeepCutAuto
namespace Go.Proofs.YtagkmgdjkailkaaGreatDoor.Sc
open Go.RowKit

theorem index9 (s : ByteArray) (k : Nat) (i : Int) (hi : i = (k : Int)) (hk : k < s.size) (w : World) : (Instr.index 9 (.string s) (.int .i64 i)).run Tryz.prog w = .ok (.int .u8 (s[k].toNat : Int)) w := by
  subst hi
  simp [Instr.index, run_underlying Tryz.underlying9, asIntOf, hk]

def Enters1 (f : FuncId) : Prop := ∀ args w, (callFunc f args).run Tryz.prog w = .ok (.enter f args) w
def Asks (f : FuncId) (p : Int → Bool) : Prop := ∀ (c : UInt8) (w : World), Calls Tryz.prog f #[.int .u8 (c.toNat : Int)] w fun e w' => e = .returned (.bool (p c.toNat)) ∧ w' = w

def spanL (p : Int → Bool) (l : List UInt8) : Nat := (l.takeWhile (pb p)).length

theorem spanL_le (p : Int → Bool) : ∀ l : List UInt8, spanL p l ≤ l.length
  | [] => by simp [spanL]
  | c :: r => by
    have := spanL_le p r
    simp only [spanL, List.takeWhile_cons] at this ⊢
    split <;> simp <;> omega

theorem drop_at {s : ByteArray} {k : Nat} (hk : k < s.size) : s.data.toList.drop k = s[k] :: s.data.toList.drop (k + 1) := by
  have h : k < s.data.toList.length := by simpa using hk
  rw [List.drop_eq_getElem_cons h]
  rfl

theorem spanL_yes {p : Int → Bool} {s : ByteArray} {k : Nat} (hk : k < s.size) (hp : p s[k].toNat = true) (h : spanL p s.data.toList = k + spanL p (s.data.toList.drop k)) :
    spanL p s.data.toList = (k + 1) + spanL p (s.data.toList.drop (k + 1)) := by
  rw [h, drop_at hk]
  have hp' : pb p s[k] = true := hp
  simp only [spanL, List.takeWhile_cons, hp', if_true, List.length_cons]
  omega

theorem spanL_no {p : Int → Bool} {s : ByteArray} {k : Nat} (hk : k < s.size) (hp : p s[k].toNat = false) (h : spanL p s.data.toList = k + spanL p (s.data.toList.drop k)) :
    spanL p s.data.toList = k := by
  rw [h, drop_at hk]
  have hp' : pb p s[k] = false := hp
  simp [spanL, hp']

theorem spanL_end {p : Int → Bool} {s : ByteArray} {k : Nat} (hk : s.size ≤ k) (h : spanL p s.data.toList = k + spanL p (s.data.toList.drop k)) : spanL p s.data.toList = k := by
  rw [h, List.drop_eq_nil_of_le (by simpa using hk)]
  simp [spanL]

theorem span_any (s : ByteArray) (f : FuncId) (p : Int → Bool) (w : World) (hs : s.size ≤ 9223372036854775000) (he : Enters1 f) (hp : Asks f p) :
    Calls Tryz.prog 63 #[.string s, .func (.func f) #[] #[]] w fun e w' => e = .returned (.int .i64 (spanL p s.data.toList)) ∧ w' = w := by
  unfold Enters1 at he
  go_enter Tryz.func63, Tryz.ntmps63
  go_wp2
  go_loop [5] (fun i => ∃ k : Nat, k ≤ s.size ∧ i = .int .i64 k ∧ Hid (spanL p s.data.toList = k + spanL p (s.data.toList.drop k))) (fun i => s.size - (intOf i).toNat)
  case atStart => exact ⟨0, Nat.zero_le _, rfl, by simp [Hid]⟩
  case round =>
    obtain ⟨k, hk, rfl, HS⟩ := hrel
    by_cases hlt : k < s.size
    · have hk1 : (k : Int) < s.size := by omega
      have hidx := index9 s k k rfl hlt
      cases hb : p (s[k].toNat : Int)
      · go_wp2_with fail
        refine (hp _ _).mono ?_
        rintro e w1 ⟨rfl, rfl⟩
        simp only [hb]
        go_wp2
        go_ret
        exact ⟨ret_int (by rw [spanL_no hlt hb HS.out]), rfl⟩
      · go_wp2_with fail
        refine (hp _ _).mono ?_
        rintro e w1 ⟨rfl, rfl⟩
        simp only [hb]
        go_wp2
        exact ⟨⟨k + 1, by omega, by go_num, spanL_yes hlt hb HS.out⟩, by simp [intOf]; omega⟩
    · have hk1 : ¬ (k : Int) < s.size := by omega
      go_wp2
      go_ret
      exact ⟨ret_int (by rw [spanL_end (by omega) HS.out]), rfl⟩

theorem cut_any (s : ByteArray) (n : Nat) (B : Nat) (w : World) (hn : n ≤ s.size) (hc : w.cell? ⟨B, 0, none⟩ = some (.string s)) (hf : w.frozen? ⟨B, 0, none⟩ = false) :
    Calls Tryz.prog 61 #[.int .i64 n, .pointer (some ⟨B, 0, none⟩)] w fun e w' => e = .returned (.string (s.extract 0 n)) ∧ w' = w.setCell ⟨B, 0, none⟩ (.string (s.extract n s.size)) := by
  go_enter Tryz.func61, Tryz.ntmps61
  go_wp2
  go_ret
  exact ⟨rfl, rfl⟩

theorem inWord_any (c : UInt8) (w : World) :
    Calls Tryz.prog 67 #[.int .u8 (c.toNat : Int)] w fun e w' => e = .returned (.bool (wordB c.toNat)) ∧ w' = w := by
  cases h1 : letterB c.toNat
  · cases h2 : digitB c.toNat
    · go_enter Tryz.func67, Tryz.ntmps67
      go_wp2_with (first | (go_at_call 66; refine (letter_any _ _).mono ?_; rintro e w' ⟨rfl, rfl⟩; simp only [h1]) | (go_at_call 68; refine (digit_any _ _).mono ?_; rintro e w' ⟨rfl, rfl⟩; simp only [h2]))
      go_ret
      exact ⟨ret_bool (by simp [wordB, h1, h2]; rfl), rfl⟩
    · go_enter Tryz.func67, Tryz.ntmps67
      go_wp2_with (first | (go_at_call 66; refine (letter_any _ _).mono ?_; rintro e w' ⟨rfl, rfl⟩; simp only [h1]) | (go_at_call 68; refine (digit_any _ _).mono ?_; rintro e w' ⟨rfl, rfl⟩; simp only [h2]))
      go_ret
      exact ⟨ret_bool (by simp [wordB, h1, h2]), rfl⟩
  · go_enter Tryz.func67, Tryz.ntmps67
    go_wp2_with (go_at_call 66; refine (letter_any _ _).mono ?_; rintro e w' ⟨rfl, rfl⟩; simp only [h1])
    go_ret
    exact ⟨ret_bool (by simp [wordB, h1]), rfl⟩

end Go.Proofs.YtagkmgdjkailkaaGreatDoor.Sc

namespace Go.Proofs.YtagkmgdjkailkaaGreatDoor.Sc
open Go.RowKit

theorem inNumber_any (c : UInt8) (w : World) :
    Calls Tryz.prog 70 #[.int .u8 (c.toNat : Int)] w fun e w' => e = .returned (.bool (numB c.toNat)) ∧ w' = w := by
  cases h2 : digitB c.toNat
  · cases h1 : letterB c.toNat
    · go_enter Tryz.func70, Tryz.ntmps70
      go_wp2_with (first | (go_at_call 66; refine (letter_any _ _).mono ?_; rintro e w' ⟨rfl, rfl⟩; simp only [h1]) | (go_at_call 68; refine (digit_any _ _).mono ?_; rintro e w' ⟨rfl, rfl⟩; simp only [h2]))
      go_ret
      exact ⟨ret_bool (by simp [numB, h1, h2]), rfl⟩
    · go_enter Tryz.func70, Tryz.ntmps70
      go_wp2_with (first | (go_at_call 66; refine (letter_any _ _).mono ?_; rintro e w' ⟨rfl, rfl⟩; simp only [h1]) | (go_at_call 68; refine (digit_any _ _).mono ?_; rintro e w' ⟨rfl, rfl⟩; simp only [h2]))
      go_ret
      exact ⟨ret_bool (by simp [numB, h1, h2]; rfl), rfl⟩
  · go_enter Tryz.func70, Tryz.ntmps70
    go_wp2_with (go_at_call 68; refine (digit_any _ _).mono ?_; rintro e w' ⟨rfl, rfl⟩; simp only [h2])
    go_ret
    exact ⟨ret_bool (by simp [numB, h2]), rfl⟩

theorem inName_any (c : UInt8) (w : World) :
    Calls Tryz.prog 149 #[.int .u8 (c.toNat : Int)] w fun e w' => e = .returned (.bool (nameB c.toNat)) ∧ w' = w := by
  by_cases h0 : (c.toNat : Int) = 46
  · have e0 : ((c.toNat : Int) == 46) = true := by simp [h0]
    go_enter Tryz.func149, Tryz.ntmps149
    go_wp2
    go_ret
    exact ⟨ret_bool (by simp [nameB, h0]), rfl⟩
  · have e0 : ((c.toNat : Int) == 46) = false := by simp [h0]
    cases h1 : letterB c.toNat
    · cases h2 : digitB c.toNat
      all_goals
        go_enter Tryz.func149, Tryz.ntmps149
        go_wp2_with (first | (go_at_call 66; refine (letter_any _ _).mono ?_; rintro e w' ⟨rfl, rfl⟩; simp only [h1]) | (go_at_call 68; refine (digit_any _ _).mono ?_; rintro e w' ⟨rfl, rfl⟩; simp only [h2]))
        go_ret
        exact ⟨ret_bool (by simp [nameB, h1, h2, h0]), rfl⟩
    · go_enter Tryz.func149, Tryz.ntmps149
      go_wp2_with (go_at_call 66; refine (letter_any _ _).mono ?_; rintro e w' ⟨rfl, rfl⟩; simp only [h1])
      go_ret
      exact ⟨ret_bool (by simp [nameB, h1, h0]), rfl⟩

theorem all8 (p : UInt8 → Bool) (h : ((List.range 256).all fun n => p (UInt8.ofNat n)) = true) (c : UInt8) : p c = true := by
  have := (List.all_eq_true.1 h) c.toNat (List.mem_range.2 c.toNat_lt)
  simpa using this

theorem blank_all (c : UInt8) : decide (0 ≤ Lib.indexByte [32, 9, 13] c) = blankB c.toNat := by
  have := all8 (fun c => decide (0 ≤ Lib.indexByte [32, 9, 13] c) == blankB c.toNat) (by decide +kernel) c
  simpa using this
theorem sign_all (c : UInt8) : decide (0 ≤ Lib.indexByte [58, 44, 35, 64, 40, 41, 43, 45, 42, 38, 124, 126, 61] c) = signB c.toNat := by
  have := all8 (fun c => decide (0 ≤ Lib.indexByte [58, 44, 35, 64, 40, 41, 43, 45, 42, 38, 124, 126, 61] c) == signB c.toNat) (by decide +kernel) c
  simpa using this

theorem toNat_toUInt8 (c : UInt8) : ((c.toNat : Int)).toNat.toUInt8 = c := by simp

theorem blank_any (c : UInt8) (w : World) :
    Calls Tryz.prog 65 #[.int .u8 (c.toNat : Int)] w fun e w' => e = .returned (.bool (blankB c.toNat)) ∧ w' = w := by
  have hb := blank_all c
  go_enter Tryz.func65, Tryz.ntmps65
  go_wp2_with (go_at_call 101; refine (Tryz.strings_IndexByte _ _ _).mono ?_; rintro e w' ⟨rfl, rfl⟩; simp only [toNat_toUInt8])
  go_ret
  exact ⟨rfl, rfl⟩

theorem sign_none (w : World) :
    Calls Tryz.prog 71 #[.string ⟨#[]⟩] w fun e w' => e = .returned (.tuple #[.agg #[.int .i64 0, .int .i64 0, .string ⟨#[]⟩], .int .i64 2]) ∧ Below w.heap.size w w' := by
  go_enter Tryz.func71, Tryz.ntmps71
  go_wp2
  exact bodyPost_ret (v := .tuple #[.agg #[.int .i64 0, .int .i64 0, .string ⟨#[]⟩], .int .i64 2]) (by simp [results, Tryz.results71, go_sem]) rfl ⟨rfl, (Below.refl _ _).alloc (Nat.le_refl _) _⟩

theorem not_empty {s : ByteArray} (hs : 0 < s.size) : (s.toList == []) = false := by
  rw [ByteArray.toList_eq]
  have h1 : s.data.toList.length = s.size := Array.length_toList
  cases h : s.data.toList with
  | nil => rw [h] at h1; simp only [List.length_nil] at h1; omega
  | cons a r => rfl

theorem sign_some (s : ByteArray) (hs : 0 < s.size) (w : World) :
    Calls Tryz.prog 71 #[.string s] w fun e w' => e = .returned (.tuple #[.agg #[.int .i64 3, .int .i64 0, .string s], .int .i64 0]) ∧ Below w.heap.size w w' := by
  have h0 : (s.toList == []) = false := not_empty hs
  go_enter Tryz.func71, Tryz.ntmps71
  go_wp2
  exact bodyPost_ret (v := .tuple #[.agg #[.int .i64 3, .int .i64 0, .string s], .int .i64 0]) (by simp [results, Tryz.results71, go_sem]) rfl ⟨rfl, (Below.refl _ _).alloc (Nat.le_refl _) _⟩

theorem signLength_any (s : ByteArray) (hs : 0 < s.size) (w : World) :
    Calls Tryz.prog 72 #[.string s] w fun e w' => e = .returned (.int .i64 (signN s.data.toList)) ∧ w' = w := by
  have h0 : (s.toList == []) = false := not_empty hs
  have hd : s.data.toList = s[0] :: s.data.toList.drop 1 := by have := drop_at hs; simpa using this
  have hidx := index9 s 0 0 rfl hs
  have hsg := sign_all s[0]
  cases h1 : Lib.hasPrefix s.data.toList [60, 60]
  · cases h2 : Lib.hasPrefix s.data.toList [62, 62]
    · cases h3 : signB (s[0].toNat : Int)
      all_goals
        have HN : Hid (signN s.data.toList = if signB (s[0].toNat : Int) = true then 1 else 0) := by
          unfold Hid signN
          rw [if_neg (by simp [h1, h2]), hd]
          rfl
        rw [h3] at hsg
        clear hd
        go_enter Tryz.func72, Tryz.ntmps72
        go_wp2_with (first | (go_at_call 104; refine (Tryz.strings_HasPrefix _ _ _).mono ?_; rintro e w' ⟨rfl, rfl⟩; simp only [h1, h2]) | (go_at_call 101; refine (Tryz.strings_IndexByte _ _ _).mono ?_; rintro e w' ⟨rfl, rfl⟩; simp only [toNat_toUInt8]))
        go_ret
        exact ⟨ret_int (by rw [HN.out, h3]; rfl), rfl⟩
    · have HN : Hid (signN s.data.toList = 2) := by simp [Hid, signN, h2]
      clear hd
      go_enter Tryz.func72, Tryz.ntmps72
      go_wp2_with (go_at_call 104; refine (Tryz.strings_HasPrefix _ _ _).mono ?_; rintro e w' ⟨rfl, rfl⟩; simp only [h1, h2])
      go_ret
      exact ⟨ret_int (by rw [HN.out]; rfl), rfl⟩
  · have HN : Hid (signN s.data.toList = 2) := by simp [Hid, signN, h1]
    clear hd
    go_enter Tryz.func72, Tryz.ntmps72
    go_wp2_with (go_at_call 104; refine (Tryz.strings_HasPrefix _ _ _).mono ?_; rintro e w' ⟨rfl, rfl⟩; simp only [h1])
    go_ret
    exact ⟨ret_int (by rw [HN.out]; rfl), rfl⟩

end Go.Proofs.YtagkmgdjkailkaaGreatDoor.Sc

namespace Go.Proofs.YtagkmgdjkailkaaGreatDoor.Sc
open Go.RowKit

/-- A byte's kind, as the document's answer tells it. -/
def kindR (c : Int) : Int := if letterB c then 97 else if digitB c then 48 else if blankB c then 32 else 0

theorem beq_no {a b : Int} (h : a ≠ b) : (a == b) = false := by simpa using h

set_option maxHeartbeats 1000000 in
theorem kind_any (c : Int) (w : World) :
    Calls Tryz.prog 29 #[.int .u8 c] w fun e w' => e = .returned (.int .u8 (kindR c)) ∧ w' = w := by
  by_cases he : c = 95 ∨ c = 46 ∨ c = 32 ∨ c = 9 ∨ c = 13
  · rcases he with rfl | rfl | rfl | rfl | rfl
    all_goals
      go_enter Tryz.func29, Tryz.ntmps29
      go_wp2
      go_ret
      exact ⟨rfl, rfl⟩
  · have e5 : (c == 95) = false := beq_no (by omega)
    have e6 : (c == 46) = false := beq_no (by omega)
    have e9 : (c == 32) = false := beq_no (by omega)
    have e10 : (c == 9) = false := beq_no (by omega)
    have e11 : (c == 13) = false := beq_no (by omega)
    have HE : Hid (¬ (c = 95 ∨ c = 46 ∨ c = 32 ∨ c = 9 ∨ c = 13)) := he
    clear he
    by_cases h1 : 97 ≤ c
    all_goals by_cases h2 : c ≤ 122
    all_goals try (exfalso; omega)
    all_goals by_cases h3 : 65 ≤ c
    all_goals try (exfalso; omega)
    all_goals by_cases h4 : c ≤ 90
    all_goals try (exfalso; omega)
    all_goals by_cases h7 : 48 ≤ c
    all_goals try (exfalso; omega)
    all_goals by_cases h8 : c ≤ 57
    all_goals try (exfalso; omega)
    all_goals
      go_enter Tryz.func29, Tryz.ntmps29
      go_wp2
      go_ret
      refine ⟨ret_int ?_, rfl⟩
      have hh := HE.out
      unfold kindR letterB digitB blankB
      repeat' split
      all_goals first | rfl | (exfalso; simp at *; omega)

/-- Has a text this byte? -/
def hasB (s : ByteArray) (c : Int) : Bool := s.data.toList.any fun x => (x.toNat : Int) == c

theorem has_yes {s : ByteArray} {c : Int} {k : Nat} (hk : k < s.size) (h : ((s[k].toNat : Int) == c) = true) : hasB s c = true := by
  unfold hasB
  rw [List.any_eq_true]
  exact ⟨s[k], by rw [Array.mem_toList_iff]; exact Array.getElem_mem _, h⟩

theorem has_no {s : ByteArray} {c : Int} (h : ∀ j, (hj : j < s.size) → ¬ ((s[j].toNat : Int) = c)) : hasB s c = false := by
  unfold hasB
  rw [List.any_eq_false]
  intro x hx
  rw [Array.mem_toList_iff, Array.mem_iff_getElem] at hx
  obtain ⟨j, hj, rfl⟩ := hx
  intro e
  exact h j hj (beq_iff_eq.1 e)

theorem has_any (s : ByteArray) (c : Int) (w : World) (hs : s.size ≤ maxLen) :
    Calls Tryz.prog 31 #[.string s, .int .u8 c] w fun e w' => e = .returned (.bool (hasB s c)) ∧ w' = w := by
  unfold maxLen at hs
  go_enter Tryz.func31, Tryz.ntmps31
  go_wp2
  go_loop [8] (fun i => ∃ k : Nat, k ≤ s.size ∧ i = .int .i64 k ∧ Hid (∀ j, (hj : j < s.size) → j < k → ¬ ((s[j].toNat : Int) = c))) (fun i => s.size - (intOf i).toNat)
  case atStart => exact ⟨0, Nat.zero_le _, rfl, fun j _ h => by omega⟩
  case round =>
    obtain ⟨k, hk, rfl, HN⟩ := hrel
    by_cases hlt : k < s.size
    · go_wp2
      · have h : ((s[k].toNat : Int) == c) = true := by assumption
        have hh := has_yes hlt h
        go_ret
        exact ⟨ret_bool hh.symm, rfl⟩
      · have h : ((s[k].toNat : Int) == c) = false := by assumption
        refine ⟨⟨k + 1, by omega, by go_num, fun j hj hjk => ?_⟩, by simp [intOf]; omega⟩
        by_cases e : j = k
        · subst e; simpa using h
        · exact HN.out j hj (by omega)
    · have HH : Hid (hasB s c = false) := has_no fun j hj => HN.out j hj (by omega)
      go_wp2
      go_ret
      exact ⟨ret_bool HH.out.symm, rfl⟩

theorem signs_all (c : UInt8) : hasB ⟨#[58, 44, 35, 64, 40, 41, 43, 45, 42, 38, 124, 126, 61]⟩ c.toNat = signB c.toNat := by
  have := all8 (fun c => hasB ⟨#[58, 44, 35, 64, 40, 41, 43, 45, 42, 38, 124, 126, 61]⟩ c.toNat == signB c.toNat) (by decide +kernel) c
  simpa using this

theorem signs_any (c : UInt8) (w : World) :
    Calls Tryz.prog 31 #[.string ⟨#[58, 44, 35, 64, 40, 41, 43, 45, 42, 38, 124, 126, 61]⟩, .int .u8 (c.toNat : Int)] w fun e w' => e = .returned (.bool (signB c.toNat)) ∧ w' = w := by
  have := has_any ⟨#[58, 44, 35, 64, 40, 41, 43, 45, 42, 38, 124, 126, 61]⟩ c.toNat w (by decide)
  rw [signs_all] at this
  exact this

end Go.Proofs.YtagkmgdjkailkaaGreatDoor.Sc

namespace Go.Proofs.YtagkmgdjkailkaaGreatDoor.Sc
open Go.RowKit

/-- How far a number has been read: what is left gives the answer; or it is too large already. -/
def NumAt (b : Nat) (D : List UInt8) (k n : Nat) : Prop :=
  n ≤ 68719476735 ∧ (n ≤ 4294967295 → parseN b 0 D = parseN b n (D.drop k)) ∧ (4294967295 < n → parseN b 0 D = none)

theorem numAt_start (b : Nat) (D : List UInt8) : NumAt b D 0 0 := ⟨by omega, fun _ => by simp, fun h => by omega⟩

theorem numAt_no {b : Nat} {D : List UInt8} {k n : Nat} {c : UInt8} {r : List UInt8} (h : NumAt b D k n) (hd : D.drop k = c :: r) (hc : digV b c.toNat = none ∨ 4294967295 < n) : parseN b 0 D = none := by
  by_cases hn : n ≤ 4294967295
  · rw [h.2.1 hn, hd]
    rcases hc with hc | hc
    · simp [parseN, hc]
    · omega
  · exact h.2.2 (by omega)

theorem digV_lt {b c d : Nat} (hb : b = 10 ∨ b = 16) (h : digV b c = some d) : d < b := by
  unfold digV at h
  rcases hb with rfl | rfl
  · split at h
    · injection h with h; omega
    · simp at h
  · split at h
    · injection h with h; omega
    · split at h
      · injection h with h; omega
      · split at h
        · injection h with h; omega
        · cases h

theorem numAt_step {b : Nat} (hb : b = 10 ∨ b = 16) {D : List UInt8} {k n d : Nat} {c : UInt8} {r : List UInt8} (h : NumAt b D k n) (hd : D.drop k = c :: r) (hc : digV b c.toNat = some d) (hn : n ≤ 4294967295) : NumAt b D (k + 1) (n * b + d) := by
  have hlt := digV_lt hb hc
  have hr : D.drop (k + 1) = r := by
    have : D.drop (k + 1) = (D.drop k).drop 1 := by rw [List.drop_drop]
    rw [this, hd]
    rfl
  have hp := h.2.1 hn
  rw [hd] at hp
  simp only [parseN, hc] at hp
  refine ⟨by rcases hb with rfl | rfl <;> omega, fun h1 => ?_, fun h1 => ?_⟩
  · rw [hp, if_pos h1, hr]
  · rw [hp, if_neg (by omega)]

theorem numAt_end {b : Nat} {D : List UInt8} {k n : Nat} (h : NumAt b D k n) (hk : D.length ≤ k) (hn : n ≤ 4294967295) : parseN b 0 D = some n := by
  rw [h.2.1 hn, List.drop_eq_nil_of_le hk]
  rfl

/-- What the document's own number answers. -/
def NumAns (o : Option Nat) (e : Ending) : Prop := ∃ x : Int, e = .returned (.tuple #[.int .i64 x, .bool o.isSome]) ∧ ∀ n, o = some n → x = n

/-- The digit at a byte, as an int; -1: none. -/
def digI (b c : Nat) : Int := match digV b c with
  | none => -1
  | some d => d

end Go.Proofs.YtagkmgdjkailkaaGreatDoor.Sc

namespace Go.Proofs.YtagkmgdjkailkaaGreatDoor.Sc
open Go.RowKit

/-- The reader's three variables in memory. -/
structure Rd (w : World) (B : Nat) (s : ByteArray) : Prop where
  c0 : w.cell? ⟨B, 0, none⟩ = some (.string s)
  f0 : w.frozen? ⟨B, 0, none⟩ = false
  c1 : w.cell? ⟨B + 1, 0, none⟩ = some (.func (.func 61) #[] #[.pointer (some ⟨B, 0, none⟩)])
  c2 : w.cell? ⟨B + 2, 0, none⟩ = some (.func (.func 62) #[] #[.pointer (some ⟨B + 1, 0, none⟩), .pointer (some ⟨B, 0, none⟩)])

theorem enters61 : Enters1 65 := enters_of Tryz.func65 (by kernel_rfl) rfl
theorem enters62 : Enters1 67 := enters_of Tryz.func67 (by kernel_rfl) rfl
theorem enters64 : Enters1 70 := enters_of Tryz.func70 (by kernel_rfl) rfl
theorem enters52 : Enters1 149 := enters_of Tryz.func149 (by kernel_rfl) rfl

def readerV (B : Nat) : Value := .func (.func 64) #[] #[.pointer (some ⟨B + 2, 0, none⟩), .pointer (some ⟨B, 0, none⟩), .pointer (some ⟨B + 1, 0, none⟩)]

theorem reader_any (s : ByteArray) (w : World) :
    Calls Tryz.prog 38 #[.string s] w fun e w' => e = .returned (readerV w.heap.size) ∧ Rd w' w.heap.size s ∧ Below w.heap.size w w' ∧ w'.heap.size = w.heap.size + 3 := by
  go_enter Tryz.func38, Tryz.ntmps38
  go_wp2
  go_ret
  refine ⟨rfl, ⟨by simp [go_sem], by simp [go_sem], by simp [go_sem], by simp [go_sem]⟩, (((Below.refl _ _).alloc (Nat.le_refl _) _).alloc (by simp) _).alloc (by simp; omega) _, by simp⟩

theorem take_any (s : ByteArray) (f : FuncId) (p : Int → Bool) (B : Nat) (w : World) (hs : s.size ≤ 9223372036854775000) (he : Enters1 f) (hp : Asks f p) (hR : Rd w B s) :
    Calls Tryz.prog 62 #[.func (.func f) #[] #[], .pointer (some ⟨B + 1, 0, none⟩), .pointer (some ⟨B, 0, none⟩)] w fun e w' =>
      e = .returned (.string (s.extract 0 (spanL p s.data.toList))) ∧ w' = (w.setCell ⟨B, 0, none⟩ (.string (s.extract (spanL p s.data.toList) s.size))).drew := by
  have hle := spanL_le p s.data.toList
  have hle2 : spanL p s.data.toList ≤ s.size := by simpa using hle
  obtain ⟨c0, f0, c1, c2⟩ := hR
  go_enter Tryz.func62, Tryz.ntmps62
  go_wp2
  go_region_with (first | (go_at_call 63; refine (span_any _ _ _ _ hs he hp).mono ?_; rintro e w' ⟨rfl, rfl⟩) | (go_at_call 61; refine (cut_any _ _ _ w.drew hle2 c0 f0).mono ?_; rintro e w' ⟨rfl, rfl⟩))
  all_goals (go_wp2; go_ret; exact ⟨rfl, rfl⟩)

end Go.Proofs.YtagkmgdjkailkaaGreatDoor.Sc
