/- The contract of the library's parser of numbers at base 16 and 32 bits, at every text. -/
import Derived.Test.YtagkmgdjkailkaaGreatDoorPut17
import Derived.Lib.ConvBytes
import Derived.Lib.ParseIntBMem
import Derived.Lib.AtoiErrMem
import Derived.Lib.Hide
import Derived.Laws.Strings3
import Derived.Laws.Closers25
import Derived.Laws.Closers25b
import Derived.BigCall
import Derived.BigGuard
namespace Go.Proofs.YtagkmgdjkailkaaGreatDoor.Sc
open Go.RowKit

def par16 : Nat → List UInt8 → Lib.NumEnd Nat
  | acc, [] => .ok acc
  | acc, c :: r => match digV 16 c.toNat with
    | none => .syntax
    | some d => if 4294967295 < acc * 16 + d then .range else par16 (acc * 16 + d) r

theorem low_all (c : UInt8) : (if 97 ≤ c.toNat ∧ c.toNat ≤ 122 then bits .or .u8 (c.toNat : Int) 32 = (c.toNat : Int) else if 65 ≤ c.toNat ∧ c.toNat ≤ 90 then bits .or .u8 (c.toNat : Int) 32 = (c.toNat : Int) + 32 else (bits .or .u8 (c.toNat : Int) 32 < 97 ∨ 122 < bits .or .u8 (c.toNat : Int) 32)) := by
  have := all8 (fun c => decide (if 97 ≤ c.toNat ∧ c.toNat ≤ 122 then bits .or .u8 (c.toNat : Int) 32 = (c.toNat : Int) else if 65 ≤ c.toNat ∧ c.toNat ≤ 90 then bits .or .u8 (c.toNat : Int) 32 = (c.toNat : Int) + 32 else (bits .or .u8 (c.toNat : Int) 32 < 97 ∨ 122 < bits .or .u8 (c.toNat : Int) 32))) (by decide +kernel) c
  exact of_decide_eq_true this

theorem digV_dig {c : Nat} (h : 48 ≤ c ∧ c ≤ 57) : digV 16 c = some (c - 48) := by simp [digV, h]
theorem digV_low {c : Nat} (h : 97 ≤ c ∧ c ≤ 102) : digV 16 c = some (c - 87) := by
  have : ¬ (48 ≤ c ∧ c ≤ 57) := by omega
  simp [digV, this, h]
theorem digV_up {c : Nat} (h : 65 ≤ c ∧ c ≤ 70) : digV 16 c = some (c - 55) := by
  have h1 : ¬ (48 ≤ c ∧ c ≤ 57) := by omega
  have h2 : ¬ (97 ≤ c ∧ c ≤ 102) := by omega
  simp [digV, h1, h2, h]
theorem digV_no {c : Nat} (h1 : ¬ (48 ≤ c ∧ c ≤ 57)) (h2 : ¬ (97 ≤ c ∧ c ≤ 102)) (h3 : ¬ (65 ≤ c ∧ c ≤ 70)) : digV 16 c = none := by
  simp [digV, h1, h2, h3]

set_option maxHeartbeats 4000000 in
set_option maxRecDepth 100000 in
theorem parse16_any (t : ByteArray) (hne : t.size ≠ 0) (hmax : t.size ≤ 9223372036854775806) (w : World) :
    Calls Tryz.prog 140 #[.string t, .int .i64 16, .int .i64 32] w fun e w' => e = .returned (Lib.uintTupleM 254 4294967295 (par16 0 t.data.toList)) ∧ w' = Lib.bytesWorld w 5 t := by
  have hemp : t.toList.isEmpty = false := by
    rw [← decide_eq_emptyBytes]
    exact decide_eq_false (fun h => hne (by rw [h]; rfl))
  have hcv := Lib.run_convert_string_bytes (P := Tryz.prog) w 9 24 5 t (u := .string) Tryz.underlying9 Tryz.underlying24 Tryz.underlying5
  have hB : ∀ j, j < t.size → (Lib.bytesWorld w 5 t).cell? ⟨w.heap.size, j, none⟩ = some (.int .u8 (t.data.toList.getD j 0).toNat) := fun j hj => Lib.bytesWorld_cell w 5 t j hj
  obtain ⟨W1, hW1⟩ : ∃ W1, W1 = Lib.bytesWorld w 5 t := ⟨_, rfl⟩
  rw [← hW1] at hcv hB ⊢
  clear hW1
  obtain ⟨bs, hL⟩ : ∃ bs, bs = t.data.toList := ⟨_, rfl⟩
  have hLn : bs.length = t.size := by rw [hL, Lib.size_eq]
  rw [← hL] at hB ⊢
  clear hL
  have hmv : IntKind.u64.wrap (IntKind.u64.wrap 4294967296 - 1) = 4294967295 := by
    rw [IntKind.wrap_u64, IntKind.wrap_u64]
    decide
  go_enter Tryz.func140, Tryz.ntmps140
  go_wp2
  go_loop [12, 13, 101] (fun vu vn vi => ∃ (k acc : Nat) (a : Int), vu = .bool false ∧ vn = .int .u64 a ∧ vi = .int .i64 k ∧ k ≤ t.size ∧ Hid (a = (acc : Int) ∧ acc ≤ 4294967295 ∧ par16 0 bs = par16 acc (bs.drop k)))
    (fun _ _ vi => t.size - (intOf vi).toNat)
  case atStart => exact ⟨0, 0, 0, rfl, rfl, rfl, by omega, rfl, by omega, rfl⟩
  case round =>
    obtain ⟨k, acc, a, rfl, rfl, rfl, hk, hh⟩ := hrel
    obtain ⟨ha, hacc, hdec⟩ := hh.out
    clear hh
    have a0 : 0 ≤ a := by omega
    have a1 : a ≤ 4294967295 := by omega
    by_cases hkn : k < t.size
    · have hc := hB k hkn
      have hdrop : bs.drop k = bs[k]'(by omega) :: bs.drop (k + 1) := List.drop_eq_getElem_cons (by omega)
      have hget : bs.getD k 0 = bs[k]'(by omega) := by simp [List.getD, List.getElem?_eq_getElem (show k < bs.length by omega)]
      rw [hdrop] at hdec
      rw [hget] at hc
      generalize bs[k]'(by omega) = c at hc hdec
      have hc256 : c.toNat < 256 := c.toNat_lt
      have hlow := low_all c
      clear hB hdrop hget
      by_cases hdig : 48 ≤ c.toNat ∧ c.toNat ≤ 57
      · obtain ⟨hd0, hd1⟩ := hdig
        clear hlow
        by_cases hov : 4294967295 < acc * 16 + (c.toNat - 48)
        · have hF : par16 acc (c :: bs.drop (k + 1)) = .range := by simp [par16, digV_dig ⟨hd0, hd1⟩, hov]
          rw [hF] at hdec
          have iov : 4294967295 < a * 16 + ((c.toNat : Int) - 48) := by omega
          clear hacc hF hov ha
          go_wp2
          go_ret2
          exact ⟨rfl, rfl⟩
        · have hF : par16 acc (c :: bs.drop (k + 1)) = par16 (acc * 16 + (c.toNat - 48)) (bs.drop (k + 1)) := by simp [par16, digV_dig ⟨hd0, hd1⟩, hov]
          have HN : Hid (a * 16 + ((c.toNat : Int) - 48) = ((acc * 16 + (c.toNat - 48) : Nat) : Int) ∧ acc * 16 + (c.toNat - 48) ≤ 4294967295 ∧ par16 0 bs = par16 (acc * 16 + (c.toNat - 48)) (bs.drop (k + 1))) := ⟨by omega, by omega, hdec.trans hF⟩
          have iov : a * 16 + ((c.toNat : Int) - 48) ≤ 4294967295 := by omega
          clear hacc hF hov hdec ha
          go_wp2
          refine ⟨⟨k + 1, acc * 16 + (c.toNat - 48), a * 16 + ((c.toNat : Int) - 48), rfl, (by first | rfl | (congr 1; omega)), (by first | rfl | (congr 1; omega)), by omega, HN⟩, by simp [intOf]; omega⟩
      · by_cases hlo : 97 ≤ c.toNat ∧ c.toNat ≤ 102
        · have hv : bits .or .u8 (c.toNat : Int) 32 = (c.toNat : Int) := by
            rw [if_pos (by omega)] at hlow
            exact hlow
          clear hlow
          obtain ⟨hl0, hl1⟩ := hlo
          by_cases hov : 4294967295 < acc * 16 + (c.toNat - 87)
          · have hF : par16 acc (c :: bs.drop (k + 1)) = .range := by simp [par16, digV_low ⟨hl0, hl1⟩, hov]
            rw [hF] at hdec
            have iov : 4294967295 < a * 16 + ((c.toNat : Int) - 87) := by omega
            clear hacc hF hov ha
            go_wp2_with (go_at_call 170; refine (Tryz.internal_strconv_lower _ _).mono ?_; rintro e w' ⟨rfl, rfl⟩; simp only [hv])
            go_ret2
            exact ⟨rfl, rfl⟩
          · have hF : par16 acc (c :: bs.drop (k + 1)) = par16 (acc * 16 + (c.toNat - 87)) (bs.drop (k + 1)) := by simp [par16, digV_low ⟨hl0, hl1⟩, hov]
            have HN : Hid (a * 16 + ((c.toNat : Int) - 87) = ((acc * 16 + (c.toNat - 87) : Nat) : Int) ∧ acc * 16 + (c.toNat - 87) ≤ 4294967295 ∧ par16 0 bs = par16 (acc * 16 + (c.toNat - 87)) (bs.drop (k + 1))) := ⟨by omega, by omega, hdec.trans hF⟩
            have iov : a * 16 + ((c.toNat : Int) - 87) ≤ 4294967295 := by omega
            clear hacc hF hov hdec ha
            go_wp2_with (go_at_call 170; refine (Tryz.internal_strconv_lower _ _).mono ?_; rintro e w' ⟨rfl, rfl⟩; simp only [hv])
            refine ⟨⟨k + 1, acc * 16 + (c.toNat - 87), a * 16 + ((c.toNat : Int) - 87), rfl, (by first | rfl | (congr 1; omega)), (by first | rfl | (congr 1; omega)), by omega, HN⟩, by simp [intOf]; omega⟩
        · by_cases hup : 65 ≤ c.toNat ∧ c.toNat ≤ 70
          · have hv : bits .or .u8 (c.toNat : Int) 32 = (c.toNat : Int) + 32 := by
              rw [if_neg (by omega), if_pos (by omega)] at hlow
              exact hlow
            clear hlow
            obtain ⟨hl0, hl1⟩ := hup
            by_cases hov : 4294967295 < acc * 16 + (c.toNat - 55)
            · have hF : par16 acc (c :: bs.drop (k + 1)) = .range := by simp [par16, digV_up ⟨hl0, hl1⟩, hov]
              rw [hF] at hdec
              have iov : 4294967295 < a * 16 + ((c.toNat : Int) - 55) := by omega
              clear hacc hF hov ha
              go_wp2_with (go_at_call 170; refine (Tryz.internal_strconv_lower _ _).mono ?_; rintro e w' ⟨rfl, rfl⟩; simp only [hv])
              go_ret2
              exact ⟨rfl, rfl⟩
            · have hF : par16 acc (c :: bs.drop (k + 1)) = par16 (acc * 16 + (c.toNat - 55)) (bs.drop (k + 1)) := by simp [par16, digV_up ⟨hl0, hl1⟩, hov]
              have HN : Hid (a * 16 + ((c.toNat : Int) - 55) = ((acc * 16 + (c.toNat - 55) : Nat) : Int) ∧ acc * 16 + (c.toNat - 55) ≤ 4294967295 ∧ par16 0 bs = par16 (acc * 16 + (c.toNat - 55)) (bs.drop (k + 1))) := ⟨by omega, by omega, hdec.trans hF⟩
              have iov : a * 16 + ((c.toNat : Int) - 55) ≤ 4294967295 := by omega
              clear hacc hF hov hdec ha
              go_wp2_with (go_at_call 170; refine (Tryz.internal_strconv_lower _ _).mono ?_; rintro e w' ⟨rfl, rfl⟩; simp only [hv])
              refine ⟨⟨k + 1, acc * 16 + (c.toNat - 55), a * 16 + ((c.toNat : Int) - 55), rfl, (by first | rfl | (congr 1; omega)), (by first | rfl | (congr 1; omega)), by omega, HN⟩, by simp [intOf]; omega⟩
          · have hF : par16 acc (c :: bs.drop (k + 1)) = .syntax := by simp [par16, digV_no hdig hlo hup]
            rw [hF] at hdec
            have hv0 := bits_lo_u8 .or (c.toNat : Int) 32
            have hv1 := bits_hi_u8 .or (c.toNat : Int) 32
            have hvv : bits .or .u8 (c.toNat : Int) 32 < 97 ∨ 103 ≤ bits .or .u8 (c.toNat : Int) 32 := by
              split at hlow
              · omega
              · split at hlow <;> omega
            clear hacc hF ha hlow
            obtain ⟨v, hv⟩ : ∃ v, bits .or .u8 (c.toNat : Int) 32 = v := ⟨_, rfl⟩
            rw [hv] at hv0 hv1 hvv
            by_cases h95 : (c.toNat : Int) = 95
            · have hv' : bits .or .u8 95 32 = v := by rw [← hv, h95]
              have hvx : v = 127 := by rw [← hv']; decide +kernel
              subst hvx
              go_wp2_with (go_at_call 170; refine (Tryz.internal_strconv_lower _ _).mono ?_; rintro e w' ⟨rfl, rfl⟩; simp only [hv'])
              go_ret2
              first | exact ⟨rfl, rfl⟩ | exact ⟨by rw [hdec]; rfl, rfl⟩
            · have e95 : ((c.toNat : Int) == 95) = false := by simpa using h95
              rcases hvv with hx | hx
              · have hx' : ¬ 97 ≤ v := by omega
                go_wp2_with (go_at_call 170; refine (Tryz.internal_strconv_lower _ _).mono ?_; rintro e w' ⟨rfl, rfl⟩; simp only [hv])
                all_goals go_ret2
                all_goals (first | exact ⟨rfl, rfl⟩ | exact ⟨by rw [hdec]; rfl, rfl⟩)
              · by_cases hy : v ≤ 122
                · have hx' : 97 ≤ v := by omega
                  go_wp2_with (go_at_call 170; refine (Tryz.internal_strconv_lower _ _).mono ?_; rintro e w' ⟨rfl, rfl⟩; simp only [hv])
                  all_goals go_ret2
                  all_goals (first | exact ⟨rfl, rfl⟩ | exact ⟨by rw [hdec]; rfl, rfl⟩)
                · have hx' : 97 ≤ v := by omega
                  go_wp2_with (go_at_call 170; refine (Tryz.internal_strconv_lower _ _).mono ?_; rintro e w' ⟨rfl, rfl⟩; simp only [hv])
                  all_goals go_ret2
                  all_goals (first | exact ⟨rfl, rfl⟩ | exact ⟨by rw [hdec]; rfl, rfl⟩)
    · have hkk : k = t.size := by omega
      subst hkk
      have hF : par16 acc (bs.drop t.size) = .ok acc := by rw [List.drop_eq_nil_of_le (by omega)]; rfl
      rw [hF] at hdec
      subst ha
      clear hacc hF a0 a1
      go_wp2
      go_ret2
      exact ⟨rfl, rfl⟩

end Go.Proofs.YtagkmgdjkailkaaGreatDoor.Sc
