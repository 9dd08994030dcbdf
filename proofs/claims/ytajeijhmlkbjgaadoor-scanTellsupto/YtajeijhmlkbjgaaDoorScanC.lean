/- Contracts of the functions of package scan: blank, inNumber, a name's bytes, signLength, sign, reader and take. -/
import Derived.Test.YtajeijhmlkbjgaaDoorScanB
namespace Go.Proofs.YtajeijhmlkbjgaaDoor
open Go.RowKit

theorem inNumber_any (c : UInt8) (w : World) :
    Calls Tryd.prog 64 #[.int .u8 (c.toNat : Int)] w fun e w' => e = .returned (.bool (numB c.toNat)) ∧ w' = w := by
  cases h2 : digitB c.toNat
  · cases h1 : letterB c.toNat
    · go_enter Tryd.func64, Tryd.ntmps64
      go_wp2_with (first | (go_at_call 53; refine (letter_any _ _).mono ?_; rintro e w' ⟨rfl, rfl⟩; simp only [h1]) | (go_at_call 50; refine (digit_any _ _).mono ?_; rintro e w' ⟨rfl, rfl⟩; simp only [h2]))
      go_ret
      exact ⟨ret_bool (by simp [numB, h1, h2]), rfl⟩
    · go_enter Tryd.func64, Tryd.ntmps64
      go_wp2_with (first | (go_at_call 53; refine (letter_any _ _).mono ?_; rintro e w' ⟨rfl, rfl⟩; simp only [h1]) | (go_at_call 50; refine (digit_any _ _).mono ?_; rintro e w' ⟨rfl, rfl⟩; simp only [h2]))
      go_ret
      exact ⟨ret_bool (by simp [numB, h1, h2]; rfl), rfl⟩
  · go_enter Tryd.func64, Tryd.ntmps64
    go_wp2_with (go_at_call 50; refine (digit_any _ _).mono ?_; rintro e w' ⟨rfl, rfl⟩; simp only [h2])
    go_ret
    exact ⟨ret_bool (by simp [numB, h2]), rfl⟩

theorem inName_any (c : UInt8) (w : World) :
    Calls Tryd.prog 52 #[.int .u8 (c.toNat : Int)] w fun e w' => e = .returned (.bool (nameB c.toNat)) ∧ w' = w := by
  by_cases h0 : (c.toNat : Int) = 46
  · have e0 : ((c.toNat : Int) == 46) = true := by simp [h0]
    go_enter Tryd.func52, Tryd.ntmps52
    go_wp2
    go_ret
    exact ⟨ret_bool (by simp [nameB, h0]), rfl⟩
  · have e0 : ((c.toNat : Int) == 46) = false := by simp [h0]
    cases h1 : letterB c.toNat
    · cases h2 : digitB c.toNat
      all_goals
        go_enter Tryd.func52, Tryd.ntmps52
        go_wp2_with (first | (go_at_call 53; refine (letter_any _ _).mono ?_; rintro e w' ⟨rfl, rfl⟩; simp only [h1]) | (go_at_call 50; refine (digit_any _ _).mono ?_; rintro e w' ⟨rfl, rfl⟩; simp only [h2]))
        go_ret
        exact ⟨ret_bool (by simp [nameB, h1, h2, h0]), rfl⟩
    · go_enter Tryd.func52, Tryd.ntmps52
      go_wp2_with (go_at_call 53; refine (letter_any _ _).mono ?_; rintro e w' ⟨rfl, rfl⟩; simp only [h1])
      go_ret
      exact ⟨ret_bool (by simp [nameB, h1, h0]), rfl⟩

theorem all8 (p : UInt8 → Bool) (h : ((List.range 256).all fun n => p (UInt8.ofNat n)) = true) (c : UInt8) : p c = true := by
  have := (List.all_eq_true.1 h) c.toNat (List.mem_range.2 c.toNat_lt)
  simpa using this

theorem blank_all (c : UInt8) : decide (0 ≤ Lib.indexByte [32, 9, 13] c) = blankB c.toNat := by
  have := all8 (fun c => decide (0 ≤ Lib.indexByte [32, 9, 13] c) == blankB c.toNat) (by decide +kernel) c
  simpa using this
theorem sign_all (c : UInt8) : decide (0 ≤ Lib.indexByte [58, 44, 35, 64, 40, 41, 43, 45, 42, 38, 124, 126, 61] c) = signB c.toNat := by
  have := all8 (fun c => decide (0 ≤ Lib.indexByte [58, 44, 35, 64, 40, 41, 43, 45, 42, 38, 124, 126, 61] c) == signB c.toNat) (by decide +kernel) c
  simpa using this

theorem toNat_toUInt8 (c : UInt8) : ((c.toNat : Int)).toNat.toUInt8 = c := by simp

theorem blank_any (c : UInt8) (w : World) :
    Calls Tryd.prog 61 #[.int .u8 (c.toNat : Int)] w fun e w' => e = .returned (.bool (blankB c.toNat)) ∧ w' = w := by
  have hb := blank_all c
  go_enter Tryd.func61, Tryd.ntmps61
  go_wp2_with (go_at_call 73; refine (Tryd.strings_IndexByte _ _ _).mono ?_; rintro e w' ⟨rfl, rfl⟩; simp only [toNat_toUInt8])
  go_ret
  exact ⟨rfl, rfl⟩

theorem sign_none (w : World) :
    Calls Tryd.prog 65 #[.string ⟨#[]⟩] w fun e w' => e = .returned (.tuple #[.agg #[.int .i64 0, .int .i64 0, .string ⟨#[]⟩], .int .i64 2]) ∧ Below w.heap.size w w' := by
  go_enter Tryd.func65, Tryd.ntmps65
  go_wp2
  exact bodyPost_ret (v := .tuple #[.agg #[.int .i64 0, .int .i64 0, .string ⟨#[]⟩], .int .i64 2]) (by simp [results, Tryd.results65, go_sem]) rfl ⟨rfl, (Below.refl _ _).alloc (Nat.le_refl _) _⟩

theorem not_empty {s : ByteArray} (hs : 0 < s.size) : (s.toList == []) = false := by
  rw [ByteArray.toList_eq]
  have h1 : s.data.toList.length = s.size := Array.length_toList
  cases h : s.data.toList with
  | nil => rw [h] at h1; simp only [List.length_nil] at h1; omega
  | cons a r => rfl

theorem sign_some (s : ByteArray) (hs : 0 < s.size) (w : World) :
    Calls Tryd.prog 65 #[.string s] w fun e w' => e = .returned (.tuple #[.agg #[.int .i64 3, .int .i64 0, .string s], .int .i64 0]) ∧ Below w.heap.size w w' := by
  have h0 : (s.toList == []) = false := not_empty hs
  go_enter Tryd.func65, Tryd.ntmps65
  go_wp2
  exact bodyPost_ret (v := .tuple #[.agg #[.int .i64 3, .int .i64 0, .string s], .int .i64 0]) (by simp [results, Tryd.results65, go_sem]) rfl ⟨rfl, (Below.refl _ _).alloc (Nat.le_refl _) _⟩

theorem signLength_any (s : ByteArray) (hs : 0 < s.size) (w : World) :
    Calls Tryd.prog 66 #[.string s] w fun e w' => e = .returned (.int .i64 (signN s.data.toList)) ∧ w' = w := by
  have h0 : (s.toList == []) = false := not_empty hs
  have hd : s.data.toList = s[0] :: s.data.toList.drop 1 := by have := drop_at hs; simpa using this
  have hidx := index9 s 0 0 rfl hs
  have hsg := sign_all s[0]
  cases h1 : Lib.hasPrefix s.data.toList [60, 60]
  · cases h2 : Lib.hasPrefix s.data.toList [62, 62]
    · cases h3 : signB (s[0].toNat : Int)
      all_goals
        have HN : Hid (signN s.data.toList = if signB (s[0].toNat : Int) = true then 1 else 0) := by
          unfold Hid signN
          rw [if_neg (by simp [h1, h2]), hd]
          rfl
        rw [h3] at hsg
        clear hd
        go_enter Tryd.func66, Tryd.ntmps66
        go_wp2_with (first | (go_at_call 76; refine (Tryd.strings_HasPrefix _ _ _).mono ?_; rintro e w' ⟨rfl, rfl⟩; simp only [h1, h2]) | (go_at_call 73; refine (Tryd.strings_IndexByte _ _ _).mono ?_; rintro e w' ⟨rfl, rfl⟩; simp only [toNat_toUInt8]))
        go_ret
        exact ⟨ret_int (by rw [HN.out, h3]; rfl), rfl⟩
    · have HN : Hid (signN s.data.toList = 2) := by simp [Hid, signN, h2]
      clear hd
      go_enter Tryd.func66, Tryd.ntmps66
      go_wp2_with (go_at_call 76; refine (Tryd.strings_HasPrefix _ _ _).mono ?_; rintro e w' ⟨rfl, rfl⟩; simp only [h1, h2])
      go_ret
      exact ⟨ret_int (by rw [HN.out]; rfl), rfl⟩
  · have HN : Hid (signN s.data.toList = 2) := by simp [Hid, signN, h1]
    clear hd
    go_enter Tryd.func66, Tryd.ntmps66
    go_wp2_with (go_at_call 76; refine (Tryd.strings_HasPrefix _ _ _).mono ?_; rintro e w' ⟨rfl, rfl⟩; simp only [h1])
    go_ret
    exact ⟨ret_int (by rw [HN.out]; rfl), rfl⟩

end Go.Proofs.YtajeijhmlkbjgaaDoor
