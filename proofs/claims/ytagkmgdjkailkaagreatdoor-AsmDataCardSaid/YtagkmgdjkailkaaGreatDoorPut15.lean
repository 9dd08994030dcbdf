/- Contracts of the functions of package scan: blank, inNumber, a name's bytes, signLength, sign, reader and take. Contracts of the closures of package scan's reader: reader itself, take. The contract of the library's parser of numbers at base 16 and 32 bits, at every text. -/
import Derived.Test.YtagkmgdjkailkaaGreatDoorPut14
import Derived.Deep.DeepCutAuto
import Derived.Lib.ConvBytes
import Derived.Lib.ParseIntBMem
import Derived.Lib.AtoiErrMem
import Derived.Lib.Hide
import Derived.Laws.Strings3
import Derived.Laws.Closers25
import Derived.Laws.Closers25b
import Derived.BigCall
import Derived.BigGuard
namespace Go.Proofs.YtagkmgdjkailkaaGreatDoor.Sc
open Go.RowKit

theorem inNumber_any (c : UInt8) (w : World) :
    Calls Tryz.prog 70 #[.int .u8 (c.toNat : Int)] w fun e w' => e = .returned (.bool (numB c.toNat)) ∧ w' = w := by
  cases h2 : digitB c.toNat
  · cases h1 : letterB c.toNat
    · go_enter Tryz.func70, Tryz.ntmps70
      go_wp2_with (first | (go_at_call 66; refine (letter_any _ _).mono ?_; rintro e w' ⟨rfl, rfl⟩; simp only [h1]) | (go_at_call 68; refine (digit_any _ _).mono ?_; rintro e w' ⟨rfl, rfl⟩; simp only [h2]))
      go_ret
      exact ⟨ret_bool (by simp [numB, h1, h2]), rfl⟩
    · go_enter Tryz.func70, Tryz.ntmps70
      go_wp2_with (first | (go_at_call 66; refine (letter_any _ _).mono ?_; rintro e w' ⟨rfl, rfl⟩; simp only [h1]) | (go_at_call 68; refine (digit_any _ _).mono ?_; rintro e w' ⟨rfl, rfl⟩; simp only [h2]))
      go_ret
      exact ⟨ret_bool (by simp [numB, h1, h2]; rfl), rfl⟩
  · go_enter Tryz.func70, Tryz.ntmps70
    go_wp2_with (go_at_call 68; refine (digit_any _ _).mono ?_; rintro e w' ⟨rfl, rfl⟩; simp only [h2])
    go_ret
    exact ⟨ret_bool (by simp [numB, h2]), rfl⟩

theorem inName_any (c : UInt8) (w : World) :
    Calls Tryz.prog 149 #[.int .u8 (c.toNat : Int)] w fun e w' => e = .returned (.bool (nameB c.toNat)) ∧ w' = w := by
  by_cases h0 : (c.toNat : Int) = 46
  · have e0 : ((c.toNat : Int) == 46) = true := by simp [h0]
    go_enter Tryz.func149, Tryz.ntmps149
    go_wp2
    go_ret
    exact ⟨ret_bool (by simp [nameB, h0]), rfl⟩
  · have e0 : ((c.toNat : Int) == 46) = false := by simp [h0]
    cases h1 : letterB c.toNat
    · cases h2 : digitB c.toNat
      all_goals
        go_enter Tryz.func149, Tryz.ntmps149
        go_wp2_with (first | (go_at_call 66; refine (letter_any _ _).mono ?_; rintro e w' ⟨rfl, rfl⟩; simp only [h1]) | (go_at_call 68; refine (digit_any _ _).mono ?_; rintro e w' ⟨rfl, rfl⟩; simp only [h2]))
        go_ret
        exact ⟨ret_bool (by simp [nameB, h1, h2, h0]), rfl⟩
    · go_enter Tryz.func149, Tryz.ntmps149
      go_wp2_with (go_at_call 66; refine (letter_any _ _).mono ?_; rintro e w' ⟨rfl, rfl⟩; simp only [h1])
      go_ret
      exact ⟨ret_bool (by simp [nameB, h1, h0]), rfl⟩

theorem all8 (p : UInt8 → Bool) (h : ((List.range 256).all fun n => p (UInt8.ofNat n)) = true) (c : UInt8) : p c = true := by
  have := (List.all_eq_true.1 h) c.toNat (List.mem_range.2 c.toNat_lt)
  simpa using this

theorem blank_all (c : UInt8) : decide (0 ≤ Lib.indexByte [32, 9, 13] c) = blankB c.toNat := by
  have := all8 (fun c => decide (0 ≤ Lib.indexByte [32, 9, 13] c) == blankB c.toNat) (by decide +kernel) c
  simpa using this
theorem sign_all (c : UInt8) : decide (0 ≤ Lib.indexByte [58, 44, 35, 64, 40, 41, 43, 45, 42, 38, 124, 126, 61] c) = signB c.toNat := by
  have := all8 (fun c => decide (0 ≤ Lib.indexByte [58, 44, 35, 64, 40, 41, 43, 45, 42, 38, 124, 126, 61] c) == signB c.toNat) (by decide +kernel) c
  simpa using this

theorem toNat_toUInt8 (c : UInt8) : ((c.toNat : Int)).toNat.toUInt8 = c := by simp

theorem blank_any (c : UInt8) (w : World) :
    Calls Tryz.prog 65 #[.int .u8 (c.toNat : Int)] w fun e w' => e = .returned (.bool (blankB c.toNat)) ∧ w' = w := by
  have hb := blank_all c
  go_enter Tryz.func65, Tryz.ntmps65
  go_wp2_with (go_at_call 101; refine (Tryz.strings_IndexByte _ _ _).mono ?_; rintro e w' ⟨rfl, rfl⟩; simp only [toNat_toUInt8])
  go_ret
  exact ⟨rfl, rfl⟩

theorem sign_none (w : World) :
    Calls Tryz.prog 71 #[.string ⟨#[]⟩] w fun e w' => e = .returned (.tuple #[.agg #[.int .i64 0, .int .i64 0, .string ⟨#[]⟩], .int .i64 2]) ∧ Below w.heap.size w w' := by
  go_enter Tryz.func71, Tryz.ntmps71
  go_wp2
  exact bodyPost_ret (v := .tuple #[.agg #[.int .i64 0, .int .i64 0, .string ⟨#[]⟩], .int .i64 2]) (by simp [results, Tryz.results71, go_sem]) rfl ⟨rfl, (Below.refl _ _).alloc (Nat.le_refl _) _⟩

theorem not_empty {s : ByteArray} (hs : 0 < s.size) : (s.toList == []) = false := by
  rw [ByteArray.toList_eq]
  have h1 : s.data.toList.length = s.size := Array.length_toList
  cases h : s.data.toList with
  | nil => rw [h] at h1; simp only [List.length_nil] at h1; omega
  | cons a r => rfl

theorem sign_some (s : ByteArray) (hs : 0 < s.size) (w : World) :
    Calls Tryz.prog 71 #[.string s] w fun e w' => e = .returned (.tuple #[.agg #[.int .i64 3, .int .i64 0, .string s], .int .i64 0]) ∧ Below w.heap.size w w' := by
  have h0 : (s.toList == []) = false := not_empty hs
  go_enter Tryz.func71, Tryz.ntmps71
  go_wp2
  exact bodyPost_ret (v := .tuple #[.agg #[.int .i64 3, .int .i64 0, .string s], .int .i64 0]) (by simp [results, Tryz.results71, go_sem]) rfl ⟨rfl, (Below.refl _ _).alloc (Nat.le_refl _) _⟩

theorem signLength_any (s : ByteArray) (hs : 0 < s.size) (w : World) :
    Calls Tryz.prog 72 #[.string s] w fun e w' => e = .returned (.int .i64 (signN s.data.toList)) ∧ w' = w := by
  have h0 : (s.toList == []) = false := not_empty hs
  have hd : s.data.toList = s[0] :: s.data.toList.drop 1 := by have := drop_at hs; simpa using this
  have hidx := index9 s 0 0 rfl hs
  have hsg := sign_all s[0]
  cases h1 : Lib.hasPrefix s.data.toList [60, 60]
  · cases h2 : Lib.hasPrefix s.data.toList [62, 62]
    · cases h3 : signB (s[0].toNat : Int)
      all_goals
        have HN : Hid (signN s.data.toList = if signB (s[0].toNat : Int) = true then 1 else 0) := by
          unfold Hid signN
          rw [if_neg (by simp [h1, h2]), hd]
          rfl
        rw [h3] at hsg
        clear hd
        go_enter Tryz.func72, Tryz.ntmps72
        go_wp2_with (first | (go_at_call 104; refine (Tryz.strings_HasPrefix _ _ _).mono ?_; rintro e w' ⟨rfl, rfl⟩; simp only [h1, h2]) | (go_at_call 101; refine (Tryz.strings_IndexByte _ _ _).mono ?_; rintro e w' ⟨rfl, rfl⟩; simp only [toNat_toUInt8]))
        go_ret
        exact ⟨ret_int (by rw [HN.out, h3]; rfl), rfl⟩
    · have HN : Hid (signN s.data.toList = 2) := by simp [Hid, signN, h2]
      clear hd
      go_enter Tryz.func72, Tryz.ntmps72
      go_wp2_with (go_at_call 104; refine (Tryz.strings_HasPrefix _ _ _).mono ?_; rintro e w' ⟨rfl, rfl⟩; simp only [h1, h2])
      go_ret
      exact ⟨ret_int (by rw [HN.out]; rfl), rfl⟩
  · have HN : Hid (signN s.data.toList = 2) := by simp [Hid, signN, h1]
    clear hd
    go_enter Tryz.func72, Tryz.ntmps72
    go_wp2_with (go_at_call 104; refine (Tryz.strings_HasPrefix _ _ _).mono ?_; rintro e w' ⟨rfl, rfl⟩; simp only [h1])
    go_ret
    exact ⟨ret_int (by rw [HN.out]; rfl), rfl⟩

end Go.Proofs.YtagkmgdjkailkaaGreatDoor.Sc

namespace Go.Proofs.YtagkmgdjkailkaaGreatDoor.Sc
open Go.RowKit

/-- The reader's three variables in memory. -/
structure Rd (w : World) (B : Nat) (s : ByteArray) : Prop where
  c0 : w.cell? ⟨B, 0, none⟩ = some (.string s)
  f0 : w.frozen? ⟨B, 0, none⟩ = false
  c1 : w.cell? ⟨B + 1, 0, none⟩ = some (.func (.func 61) #[] #[.pointer (some ⟨B, 0, none⟩)])
  c2 : w.cell? ⟨B + 2, 0, none⟩ = some (.func (.func 62) #[] #[.pointer (some ⟨B + 1, 0, none⟩), .pointer (some ⟨B, 0, none⟩)])

theorem enters61 : Enters1 65 := enters_of Tryz.func65 (by kernel_rfl) rfl
theorem enters62 : Enters1 67 := enters_of Tryz.func67 (by kernel_rfl) rfl
theorem enters64 : Enters1 70 := enters_of Tryz.func70 (by kernel_rfl) rfl
theorem enters52 : Enters1 149 := enters_of Tryz.func149 (by kernel_rfl) rfl

def readerV (B : Nat) : Value := .func (.func 64) #[] #[.pointer (some ⟨B + 2, 0, none⟩), .pointer (some ⟨B, 0, none⟩), .pointer (some ⟨B + 1, 0, none⟩)]

theorem reader_any (s : ByteArray) (w : World) :
    Calls Tryz.prog 38 #[.string s] w fun e w' => e = .returned (readerV w.heap.size) ∧ Rd w' w.heap.size s ∧ Below w.heap.size w w' ∧ w'.heap.size = w.heap.size + 3 := by
  go_enter Tryz.func38, Tryz.ntmps38
  go_wp2
  go_ret
  refine ⟨rfl, ⟨by simp [go_sem], by simp [go_sem], by simp [go_sem], by simp [go_sem]⟩, (((Below.refl _ _).alloc (Nat.le_refl _) _).alloc (by simp) _).alloc (by simp; omega) _, by simp⟩

theorem take_any (s : ByteArray) (f : FuncId) (p : Int → Bool) (B : Nat) (w : World) (hs : s.size ≤ 9223372036854775000) (he : Enters1 f) (hp : Asks f p) (hR : Rd w B s) :
    Calls Tryz.prog 62 #[.func (.func f) #[] #[], .pointer (some ⟨B + 1, 0, none⟩), .pointer (some ⟨B, 0, none⟩)] w fun e w' =>
      e = .returned (.string (s.extract 0 (spanL p s.data.toList))) ∧ w' = (w.setCell ⟨B, 0, none⟩ (.string (s.extract (spanL p s.data.toList) s.size))).drew := by
  have hle := spanL_le p s.data.toList
  have hle2 : spanL p s.data.toList ≤ s.size := by simpa using hle
  obtain ⟨c0, f0, c1, c2⟩ := hR
  go_enter Tryz.func62, Tryz.ntmps62
  go_wp2
  go_region_with (first | (go_at_call 63; refine (span_any _ _ _ _ hs he hp).mono ?_; rintro e w' ⟨rfl, rfl⟩) | (go_at_call 61; refine (cut_any _ _ _ w.drew hle2 c0 f0).mono ?_; rintro e w' ⟨rfl, rfl⟩))
  all_goals (go_wp2; go_ret; exact ⟨rfl, rfl⟩)

end Go.Proofs.YtagkmgdjkailkaaGreatDoor.Sc

namespace Go.Proofs.YtagkmgdjkailkaaGreatDoor.Sc
open Go.RowKit

def par16 : Nat → List UInt8 → Lib.NumEnd Nat
  | acc, [] => .ok acc
  | acc, c :: r => match digV 16 c.toNat with
    | none => .syntax
    | some d => if 4294967295 < acc * 16 + d then .range else par16 (acc * 16 + d) r

theorem low_all (c : UInt8) : (if 97 ≤ c.toNat ∧ c.toNat ≤ 122 then bits .or .u8 (c.toNat : Int) 32 = (c.toNat : Int) else if 65 ≤ c.toNat ∧ c.toNat ≤ 90 then bits .or .u8 (c.toNat : Int) 32 = (c.toNat : Int) + 32 else (bits .or .u8 (c.toNat : Int) 32 < 97 ∨ 122 < bits .or .u8 (c.toNat : Int) 32)) := by
  have := all8 (fun c => decide (if 97 ≤ c.toNat ∧ c.toNat ≤ 122 then bits .or .u8 (c.toNat : Int) 32 = (c.toNat : Int) else if 65 ≤ c.toNat ∧ c.toNat ≤ 90 then bits .or .u8 (c.toNat : Int) 32 = (c.toNat : Int) + 32 else (bits .or .u8 (c.toNat : Int) 32 < 97 ∨ 122 < bits .or .u8 (c.toNat : Int) 32))) (by decide +kernel) c
  exact of_decide_eq_true this

theorem digV_dig {c : Nat} (h : 48 ≤ c ∧ c ≤ 57) : digV 16 c = some (c - 48) := by simp [digV, h]
theorem digV_low {c : Nat} (h : 97 ≤ c ∧ c ≤ 102) : digV 16 c = some (c - 87) := by
  have : ¬ (48 ≤ c ∧ c ≤ 57) := by omega
  simp [digV, this, h]
theorem digV_up {c : Nat} (h : 65 ≤ c ∧ c ≤ 70) : digV 16 c = some (c - 55) := by
  have h1 : ¬ (48 ≤ c ∧ c ≤ 57) := by omega
  have h2 : ¬ (97 ≤ c ∧ c ≤ 102) := by omega
  simp [digV, h1, h2, h]
theorem digV_no {c : Nat} (h1 : ¬ (48 ≤ c ∧ c ≤ 57)) (h2 : ¬ (97 ≤ c ∧ c ≤ 102)) (h3 : ¬ (65 ≤ c ∧ c ≤ 70)) : digV 16 c = none := by
  simp [digV, h1, h2, h3]

set_option maxHeartbeats 4000000 in
set_option maxRecDepth 100000 in
theorem parse16_any (t : ByteArray) (hne : t.size ≠ 0) (hmax : t.size ≤ 9223372036854775806) (w : World) :
    Calls Tryz.prog 140 #[.string t, .int .i64 16, .int .i64 32] w fun e w' => e = .returned (Lib.uintTupleM 254 4294967295 (par16 0 t.data.toList)) ∧ w' = Lib.bytesWorld w 5 t := by
  have hemp : t.toList.isEmpty = false := by
    rw [← decide_eq_emptyBytes]
    exact decide_eq_false (fun h => hne (by rw [h]; rfl))
  have hcv := Lib.run_convert_string_bytes (P := Tryz.prog) w 9 24 5 t (u := .string) Tryz.underlying9 Tryz.underlying24 Tryz.underlying5
  have hB : ∀ j, j < t.size → (Lib.bytesWorld w 5 t).cell? ⟨w.heap.size, j, none⟩ = some (.int .u8 (t.data.toList.getD j 0).toNat) := fun j hj => Lib.bytesWorld_cell w 5 t j hj
  obtain ⟨W1, hW1⟩ : ∃ W1, W1 = Lib.bytesWorld w 5 t := ⟨_, rfl⟩
  rw [← hW1] at hcv hB ⊢
  clear hW1
  obtain ⟨bs, hL⟩ : ∃ bs, bs = t.data.toList := ⟨_, rfl⟩
  have hLn : bs.length = t.size := by rw [hL, Lib.size_eq]
  rw [← hL] at hB ⊢
  clear hL
  have hmv : IntKind.u64.wrap (IntKind.u64.wrap 4294967296 - 1) = 4294967295 := by
    rw [IntKind.wrap_u64, IntKind.wrap_u64]
    decide
  go_enter Tryz.func140, Tryz.ntmps140
  go_wp2
  go_loop [12, 13, 101] (fun vu vn vi => ∃ (k acc : Nat) (a : Int), vu = .bool false ∧ vn = .int .u64 a ∧ vi = .int .i64 k ∧ k ≤ t.size ∧ Hid (a = (acc : Int) ∧ acc ≤ 4294967295 ∧ par16 0 bs = par16 acc (bs.drop k)))
    (fun _ _ vi => t.size - (intOf vi).toNat)
  case atStart => exact ⟨0, 0, 0, rfl, rfl, rfl, by omega, rfl, by omega, rfl⟩
  case round =>
    obtain ⟨k, acc, a, rfl, rfl, rfl, hk, hh⟩ := hrel
    obtain ⟨ha, hacc, hdec⟩ := hh.out
    clear hh
    have a0 : 0 ≤ a := by omega
    have a1 : a ≤ 4294967295 := by omega
    by_cases hkn : k < t.size
    · have hc := hB k hkn
      have hdrop : bs.drop k = bs[k]'(by omega) :: bs.drop (k + 1) := List.drop_eq_getElem_cons (by omega)
      have hget : bs.getD k 0 = bs[k]'(by omega) := by simp [List.getD, List.getElem?_eq_getElem (show k < bs.length by omega)]
      rw [hdrop] at hdec
      rw [hget] at hc
      generalize bs[k]'(by omega) = c at hc hdec
      have hc256 : c.toNat < 256 := c.toNat_lt
      have hlow := low_all c
      clear hB hdrop hget
      by_cases hdig : 48 ≤ c.toNat ∧ c.toNat ≤ 57
      · obtain ⟨hd0, hd1⟩ := hdig
        clear hlow
        by_cases hov : 4294967295 < acc * 16 + (c.toNat - 48)
        · have hF : par16 acc (c :: bs.drop (k + 1)) = .range := by simp [par16, digV_dig ⟨hd0, hd1⟩, hov]
          rw [hF] at hdec
          have iov : 4294967295 < a * 16 + ((c.toNat : Int) - 48) := by omega
          clear hacc hF hov ha
          go_wp2
          go_ret2
          exact ⟨rfl, rfl⟩
        · have hF : par16 acc (c :: bs.drop (k + 1)) = par16 (acc * 16 + (c.toNat - 48)) (bs.drop (k + 1)) := by simp [par16, digV_dig ⟨hd0, hd1⟩, hov]
          have HN : Hid (a * 16 + ((c.toNat : Int) - 48) = ((acc * 16 + (c.toNat - 48) : Nat) : Int) ∧ acc * 16 + (c.toNat - 48) ≤ 4294967295 ∧ par16 0 bs = par16 (acc * 16 + (c.toNat - 48)) (bs.drop (k + 1))) := ⟨by omega, by omega, hdec.trans hF⟩
          have iov : a * 16 + ((c.toNat : Int) - 48) ≤ 4294967295 := by omega
          clear hacc hF hov hdec ha
          go_wp2
          refine ⟨⟨k + 1, acc * 16 + (c.toNat - 48), a * 16 + ((c.toNat : Int) - 48), rfl, (by first | rfl | (congr 1; omega)), (by first | rfl | (congr 1; omega)), by omega, HN⟩, by simp [intOf]; omega⟩
      · by_cases hlo : 97 ≤ c.toNat ∧ c.toNat ≤ 102
        · have hv : bits .or .u8 (c.toNat : Int) 32 = (c.toNat : Int) := by
            rw [if_pos (by omega)] at hlow
            exact hlow
          clear hlow
          obtain ⟨hl0, hl1⟩ := hlo
          by_cases hov : 4294967295 < acc * 16 + (c.toNat - 87)
          · have hF : par16 acc (c :: bs.drop (k + 1)) = .range := by simp [par16, digV_low ⟨hl0, hl1⟩, hov]
            rw [hF] at hdec
            have iov : 4294967295 < a * 16 + ((c.toNat : Int) - 87) := by omega
            clear hacc hF hov ha
            go_wp2_with (go_at_call 170; refine (Tryz.internal_strconv_lower _ _).mono ?_; rintro e w' ⟨rfl, rfl⟩; simp only [hv])
            go_ret2
            exact ⟨rfl, rfl⟩
          · have hF : par16 acc (c :: bs.drop (k + 1)) = par16 (acc * 16 + (c.toNat - 87)) (bs.drop (k + 1)) := by simp [par16, digV_low ⟨hl0, hl1⟩, hov]
            have HN : Hid (a * 16 + ((c.toNat : Int) - 87) = ((acc * 16 + (c.toNat - 87) : Nat) : Int) ∧ acc * 16 + (c.toNat - 87) ≤ 4294967295 ∧ par16 0 bs = par16 (acc * 16 + (c.toNat - 87)) (bs.drop (k + 1))) := ⟨by omega, by omega, hdec.trans hF⟩
            have iov : a * 16 + ((c.toNat : Int) - 87) ≤ 4294967295 := by omega
            clear hacc hF hov hdec ha
            go_wp2_with (go_at_call 170; refine (Tryz.internal_strconv_lower _ _).mono ?_; rintro e w' ⟨rfl, rfl⟩; simp only [hv])
            refine ⟨⟨k + 1, acc * 16 + (c.toNat - 87), a * 16 + ((c.toNat : Int) - 87), rfl, (by first | rfl | (congr 1; omega)), (by first | rfl | (congr 1; omega)), by omega, HN⟩, by simp [intOf]; omega⟩
        · by_cases hup : 65 ≤ c.toNat ∧ c.toNat ≤ 70
          · have hv : bits .or .u8 (c.toNat : Int) 32 = (c.toNat : Int) + 32 := by
              rw [if_neg (by omega), if_pos (by omega)] at hlow
              exact hlow
            clear hlow
            obtain ⟨hl0, hl1⟩ := hup
            by_cases hov : 4294967295 < acc * 16 + (c.toNat - 55)
            · have hF : par16 acc (c :: bs.drop (k + 1)) = .range := by simp [par16, digV_up ⟨hl0, hl1⟩, hov]
              rw [hF] at hdec
              have iov : 4294967295 < a * 16 + ((c.toNat : Int) - 55) := by omega
              clear hacc hF hov ha
              go_wp2_with (go_at_call 170; refine (Tryz.internal_strconv_lower _ _).mono ?_; rintro e w' ⟨rfl, rfl⟩; simp only [hv])
              go_ret2
              exact ⟨rfl, rfl⟩
            · have hF : par16 acc (c :: bs.drop (k + 1)) = par16 (acc * 16 + (c.toNat - 55)) (bs.drop (k + 1)) := by simp [par16, digV_up ⟨hl0, hl1⟩, hov]
              have HN : Hid (a * 16 + ((c.toNat : Int) - 55) = ((acc * 16 + (c.toNat - 55) : Nat) : Int) ∧ acc * 16 + (c.toNat - 55) ≤ 4294967295 ∧ par16 0 bs = par16 (acc * 16 + (c.toNat - 55)) (bs.drop (k + 1))) := ⟨by omega, by omega, hdec.trans hF⟩
              have iov : a * 16 + ((c.toNat : Int) - 55) ≤ 4294967295 := by omega
              clear hacc hF hov hdec ha
              go_wp2_with (go_at_call 170; refine (Tryz.internal_strconv_lower _ _).mono ?_; rintro e w' ⟨rfl, rfl⟩; simp only [hv])
              refine ⟨⟨k + 1, acc * 16 + (c.toNat - 55), a * 16 + ((c.toNat : Int) - 55), rfl, (by first | rfl | (congr 1; omega)), (by first | rfl | (congr 1; omega)), by omega, HN⟩, by simp [intOf]; omega⟩
          · have hF : par16 acc (c :: bs.drop (k + 1)) = .syntax := by simp [par16, digV_no hdig hlo hup]
            rw [hF] at hdec
            have hv0 := bits_lo_u8 .or (c.toNat : Int) 32
            have hv1 := bits_hi_u8 .or (c.toNat : Int) 32
            have hvv : bits .or .u8 (c.toNat : Int) 32 < 97 ∨ 103 ≤ bits .or .u8 (c.toNat : Int) 32 := by
              split at hlow
              · omega
              · split at hlow <;> omega
            clear hacc hF ha hlow
            obtain ⟨v, hv⟩ : ∃ v, bits .or .u8 (c.toNat : Int) 32 = v := ⟨_, rfl⟩
            rw [hv] at hv0 hv1 hvv
            by_cases h95 : (c.toNat : Int) = 95
            · have hv' : bits .or .u8 95 32 = v := by rw [← hv, h95]
              have hvx : v = 127 := by rw [← hv']; decide +kernel
              subst hvx
              go_wp2_with (go_at_call 170; refine (Tryz.internal_strconv_lower _ _).mono ?_; rintro e w' ⟨rfl, rfl⟩; simp only [hv'])
              go_ret2
              first | exact ⟨rfl, rfl⟩ | exact ⟨by rw [hdec]; rfl, rfl⟩
            · have e95 : ((c.toNat : Int) == 95) = false := by simpa using h95
              rcases hvv with hx | hx
              · have hx' : ¬ 97 ≤ v := by omega
                go_wp2_with (go_at_call 170; refine (Tryz.internal_strconv_lower _ _).mono ?_; rintro e w' ⟨rfl, rfl⟩; simp only [hv])
                all_goals go_ret2
                all_goals (first | exact ⟨rfl, rfl⟩ | exact ⟨by rw [hdec]; rfl, rfl⟩)
              · by_cases hy : v ≤ 122
                · have hx' : 97 ≤ v := by omega
                  go_wp2_with (go_at_call 170; refine (Tryz.internal_strconv_lower _ _).mono ?_; rintro e w' ⟨rfl, rfl⟩; simp only [hv])
                  all_goals go_ret2
                  all_goals (first | exact ⟨rfl, rfl⟩ | exact ⟨by rw [hdec]; rfl, rfl⟩)
                · have hx' : 97 ≤ v := by omega
                  go_wp2_with (go_at_call 170; refine (Tryz.internal_strconv_lower _ _).mono ?_; rintro e w' ⟨rfl, rfl⟩; simp only [hv])
                  all_goals go_ret2
                  all_goals (first | exact ⟨rfl, rfl⟩ | exact ⟨by rw [hdec]; rfl, rfl⟩)
    · have hkk : k = t.size := by omega
      subst hkk
      have hF : par16 acc (bs.drop t.size) = .ok acc := by rw [List.drop_eq_nil_of_le (by omega)]; rfl
      rw [hF] at hdec
      subst ha
      clear hacc hF a0 a1
      go_wp2
      go_ret2
      exact ⟨rfl, rfl⟩

end Go.Proofs.YtagkmgdjkailkaaGreatDoor.Sc
