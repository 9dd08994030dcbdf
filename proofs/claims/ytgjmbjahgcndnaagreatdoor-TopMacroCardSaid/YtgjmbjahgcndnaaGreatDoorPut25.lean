import Derived.Test.YtgjmbjahgcndnaaGreatDoorPut24
import Derived.Lib.ConvBytes
import Derived.Lib.ParseIntBMem
import Derived.Lib.AtoiErrMem
import Derived.Lib.Hide
import Derived.Laws.Strings3
import Derived.Laws.Closers25
import Derived.Laws.Closers25b
import Derived.BigCall
import Derived.BigGuard
import Derived.WalkSmall
set_option maxHeartbeats 4000000
set_option maxRecDepth 100000
namespace Go.Proofs.YtgjmbjahgcndnaaGreatDoor.Sc
open Go.RowKit
def par16 : Nat -> List UInt8 -> Lib.NumEnd Nat
 | acc, [] => .ok acc
 | acc, c :: r => match digV 16 c.toNat with
   | none => .syntax
   | some d => if 4294967295 < acc * 16 + d then .range else par16 (acc * 16 + d) r
theorem low_all (c : UInt8) : (if 97 <= c.toNat /\ c.toNat <= 122 then bits .or .u8 (c.toNat : Int) 32 = (c.toNat : Int) else if 65 <= c.toNat /\ c.toNat <= 90 then bits .or .u8 (c.toNat : Int) 32 = (c.toNat : Int) + 32 else (bits .or .u8 (c.toNat : Int) 32 < 97 \/ 122 < bits .or .u8 (c.toNat : Int) 32)) := by
 have := all8 (fun c => decide (if 97 <= c.toNat /\ c.toNat <= 122 then bits .or .u8 (c.toNat : Int) 32 = (c.toNat : Int) else if 65 <= c.toNat /\ c.toNat <= 90 then bits .or .u8 (c.toNat : Int) 32 = (c.toNat : Int) + 32 else (bits .or .u8 (c.toNat : Int) 32 < 97 \/ 122 < bits .or .u8 (c.toNat : Int) 32))) (by decide +kernel) c
 exact of_decide_eq_true this
theorem qHa {c : Nat} (h : 48 <= c /\ c <= 57) : digV 16 c = some (c - 48) := by simp [digV, h]
theorem qHx {c : Nat} (h : 97 <= c /\ c <= 102) : digV 16 c = some (c - 87) := by
 have : ¬ (48 <= c /\ c <= 57) := by omega
 simp [digV, this, h]
theorem qJo {c : Nat} (h : 65 <= c /\ c <= 70) : digV 16 c = some (c - 55) := by
 have h1 : ¬ (48 <= c /\ c <= 57) := by omega
 have h2 : ¬ (97 <= c /\ c <= 102) := by omega
 simp [digV, h1, h2, h]
theorem digV_no {c : Nat} (h1 : ¬ (48 <= c /\ c <= 57)) (h2 : ¬ (97 <= c /\ c <= 102)) (h3 : ¬ (65 <= c /\ c <= 70)) : digV 16 c = none := by
 simp [digV, h1, h2, h3]
theorem qDv (t : ByteArray) (hne : t.size ≠ 0) (hmax : t.size <= 9223372036854775806) (w : World) :
  Calls Tryz.prog 180 #[.string t, .int .i64 16, .int .i64 32] w fun e w' => e = .returned (Lib.uintTupleM 309 4294967295 (par16 0 t.data.toList)) /\ w' = Lib.bytesWorld w 5 t := by
 have hemp : t.toList.isEmpty = false := by
  rw [<- decide_eq_emptyBytes]
  exact decide_eq_false (fun h => hne (by rw [h]; rfl))
 have hcv := Lib.run_convert_string_bytes (P := Tryz.prog) w 9 31 5 t (u := .string) Tryz.underlying9 Tryz.underlying31 Tryz.underlying5
 have hB : ∀ j, j < t.size -> (Lib.bytesWorld w 5 t).cell? ⟨w.heap.size, j, none⟩ = some (.int .u8 (t.data.toList.getD j 0).toNat) := fun j hj => Lib.bytesWorld_cell w 5 t j hj
 obtain ⟨W1, hW1⟩ : ∃ W1, W1 = Lib.bytesWorld w 5 t := ⟨_, rfl⟩
 rw [<- hW1] at hcv hB ⊢
 clear hW1
 obtain ⟨bs, hL⟩ : ∃ bs, bs = t.data.toList := ⟨_, rfl⟩
 have hLn : bs.length = t.size := by rw [hL, Lib.size_eq]
 rw [<- hL] at hB ⊢
 clear hL
 have hmv : IntKind.u64.wrap (IntKind.u64.wrap 4294967296 - 1) = 4294967295 := by
  rw [IntKind.wrap_u64, IntKind.wrap_u64]
  decide
 go_enter Tryz.func180, Tryz.ntmps180
 go_wp2
 go_loop [12, 13, 101] (fun vu vn vi => ∃ (k acc : Nat) (a : Int), vu = .bool false /\ vn = .int .u64 a /\ vi = .int .i64 k /\ k <= t.size /\ Hid (a = (acc : Int) /\ acc <= 4294967295 /\ par16 0 bs = par16 acc (bs.drop k)))
  (fun _ _ vi => t.size - (intOf vi).toNat)
 case atStart => exact ⟨0, 0, 0, rfl, rfl, rfl, by omega, rfl, by omega, rfl⟩
 case round =>
  obtain ⟨k, acc, a, rfl, rfl, rfl, hk, hh⟩ := hrel
  obtain ⟨ha, hacc, hdec⟩ := hh.out
  clear hh
  have a0 : 0 <= a := by omega
  have a1 : a <= 4294967295 := by omega
  by_cases hkn : k < t.size
  ·have hc := hB k hkn
   have hdrop : bs.drop k = bs[k]'(by omega) :: bs.drop (k + 1) := List.drop_eq_getElem_cons (by omega)
   have hget : bs.getD k 0 = bs[k]'(by omega) := by simp [List.getD, List.getElem?_eq_getElem (show k < bs.length by omega)]
   rw [hdrop] at hdec
   rw [hget] at hc
   generalize bs[k]'(by omega) = c at hc hdec
   have hc256 : c.toNat < 256 := c.toNat_lt
   have hlow := low_all c
   clear hB hdrop hget
   by_cases hdig : 48 <= c.toNat /\ c.toNat <= 57
   ·obtain ⟨hd0, hd1⟩ := hdig
    clear hlow
    by_cases hov : 4294967295 < acc * 16 + (c.toNat - 48)
    ·have hF : par16 acc (c :: bs.drop (k + 1)) = .range := by simp [par16, qHa ⟨hd0, hd1⟩, hov]
     rw [hF] at hdec
     have iov : 4294967295 < a * 16 + ((c.toNat : Int) - 48) := by omega
     clear hacc hF hov ha
     go_wp2
     go_ret2
     exact ⟨rfl, rfl⟩
    ·have hF : par16 acc (c :: bs.drop (k + 1)) = par16 (acc * 16 + (c.toNat - 48)) (bs.drop (k + 1)) := by simp [par16, qHa ⟨hd0, hd1⟩, hov]
     have HN : Hid (a * 16 + ((c.toNat : Int) - 48) = ((acc * 16 + (c.toNat - 48) : Nat) : Int) /\ acc * 16 + (c.toNat - 48) <= 4294967295 /\ par16 0 bs = par16 (acc * 16 + (c.toNat - 48)) (bs.drop (k + 1))) := ⟨by omega, by omega, hdec.trans hF⟩
     have iov : a * 16 + ((c.toNat : Int) - 48) <= 4294967295 := by omega
     clear hacc hF hov hdec ha
     go_wp2
     refine ⟨⟨k + 1, acc * 16 + (c.toNat - 48), a * 16 + ((c.toNat : Int) - 48), rfl, (by first | rfl | (congr 1; omega)), (by first | rfl | (congr 1; omega)), by omega, HN⟩, by simp [intOf]; omega⟩
   ·by_cases hlo : 97 <= c.toNat /\ c.toNat <= 102
    ·have hv : bits .or .u8 (c.toNat : Int) 32 = (c.toNat : Int) := by
      rw [if_pos (by omega)] at hlow
      exact hlow
     clear hlow
     obtain ⟨hl0, hl1⟩ := hlo
     by_cases hov : 4294967295 < acc * 16 + (c.toNat - 87)
     ·have hF : par16 acc (c :: bs.drop (k + 1)) = .range := by simp [par16, qHx ⟨hl0, hl1⟩, hov]
      rw [hF] at hdec
      have iov : 4294967295 < a * 16 + ((c.toNat : Int) - 87) := by omega
      clear hacc hF hov ha
      go_wp2_with (go_at_call 208; refine (Tryz.internal_strconv_lower _ _).mono ?_; rintro e w' ⟨rfl, rfl⟩; simp only [hv])
      go_ret2
      exact ⟨rfl, rfl⟩
     ·have hF : par16 acc (c :: bs.drop (k + 1)) = par16 (acc * 16 + (c.toNat - 87)) (bs.drop (k + 1)) := by simp [par16, qHx ⟨hl0, hl1⟩, hov]
      have HN : Hid (a * 16 + ((c.toNat : Int) - 87) = ((acc * 16 + (c.toNat - 87) : Nat) : Int) /\ acc * 16 + (c.toNat - 87) <= 4294967295 /\ par16 0 bs = par16 (acc * 16 + (c.toNat - 87)) (bs.drop (k + 1))) := ⟨by omega, by omega, hdec.trans hF⟩
      have iov : a * 16 + ((c.toNat : Int) - 87) <= 4294967295 := by omega
      clear hacc hF hov hdec ha
      go_wp2_with (go_at_call 208; refine (Tryz.internal_strconv_lower _ _).mono ?_; rintro e w' ⟨rfl, rfl⟩; simp only [hv])
      refine ⟨⟨k + 1, acc * 16 + (c.toNat - 87), a * 16 + ((c.toNat : Int) - 87), rfl, (by first | rfl | (congr 1; omega)), (by first | rfl | (congr 1; omega)), by omega, HN⟩, by simp [intOf]; omega⟩
    ·by_cases hup : 65 <= c.toNat /\ c.toNat <= 70
     ·have hv : bits .or .u8 (c.toNat : Int) 32 = (c.toNat : Int) + 32 := by
       rw [if_neg (by omega), if_pos (by omega)] at hlow
       exact hlow
      clear hlow
      obtain ⟨hl0, hl1⟩ := hup
      by_cases hov : 4294967295 < acc * 16 + (c.toNat - 55)
      ·have hF : par16 acc (c :: bs.drop (k + 1)) = .range := by simp [par16, qJo ⟨hl0, hl1⟩, hov]
       rw [hF] at hdec
       have iov : 4294967295 < a * 16 + ((c.toNat : Int) - 55) := by omega
       clear hacc hF hov ha
       go_wp2_with (go_at_call 208; refine (Tryz.internal_strconv_lower _ _).mono ?_; rintro e w' ⟨rfl, rfl⟩; simp only [hv])
       go_ret2
       exact ⟨rfl, rfl⟩
      ·have hF : par16 acc (c :: bs.drop (k + 1)) = par16 (acc * 16 + (c.toNat - 55)) (bs.drop (k + 1)) := by simp [par16, qJo ⟨hl0, hl1⟩, hov]
       have HN : Hid (a * 16 + ((c.toNat : Int) - 55) = ((acc * 16 + (c.toNat - 55) : Nat) : Int) /\ acc * 16 + (c.toNat - 55) <= 4294967295 /\ par16 0 bs = par16 (acc * 16 + (c.toNat - 55)) (bs.drop (k + 1))) := ⟨by omega, by omega, hdec.trans hF⟩
       have iov : a * 16 + ((c.toNat : Int) - 55) <= 4294967295 := by omega
       clear hacc hF hov hdec ha
       go_wp2_with (go_at_call 208; refine (Tryz.internal_strconv_lower _ _).mono ?_; rintro e w' ⟨rfl, rfl⟩; simp only [hv])
       refine ⟨⟨k + 1, acc * 16 + (c.toNat - 55), a * 16 + ((c.toNat : Int) - 55), rfl, (by first | rfl | (congr 1; omega)), (by first | rfl | (congr 1; omega)), by omega, HN⟩, by simp [intOf]; omega⟩
     ·have hF : par16 acc (c :: bs.drop (k + 1)) = .syntax := by simp [par16, digV_no hdig hlo hup]
      rw [hF] at hdec
      have hv0 := bits_lo_u8 .or (c.toNat : Int) 32
      have hv1 := bits_hi_u8 .or (c.toNat : Int) 32
      have hvv : bits .or .u8 (c.toNat : Int) 32 < 97 \/ 103 <= bits .or .u8 (c.toNat : Int) 32 := by
       split at hlow
       ·omega
       ·split at hlow <;> omega
      clear hacc hF ha hlow
      obtain ⟨v, hv⟩ : ∃ v, bits .or .u8 (c.toNat : Int) 32 = v := ⟨_, rfl⟩
      rw [hv] at hv0 hv1 hvv
      by_cases h95 : (c.toNat : Int) = 95
      ·have hv' : bits .or .u8 95 32 = v := by rw [<- hv, h95]
       have hvx : v = 127 := by rw [<- hv']; decide +kernel
       subst hvx
       go_wp2_with (go_at_call 208; refine (Tryz.internal_strconv_lower _ _).mono ?_; rintro e w' ⟨rfl, rfl⟩; simp only [hv'])
       go_ret2
       first | exact ⟨rfl, rfl⟩ | exact ⟨by rw [hdec]; rfl, rfl⟩
      ·have e95 : ((c.toNat : Int) == 95) = false := by simpa using h95
       rcases hvv with hx | hx
       ·have hx' : ¬ 97 <= v := by omega
        go_wp2_with (go_at_call 208; refine (Tryz.internal_strconv_lower _ _).mono ?_; rintro e w' ⟨rfl, rfl⟩; simp only [hv])
        all_goals go_ret2
        all_goals (first | exact ⟨rfl, rfl⟩ | exact ⟨by rw [hdec]; rfl, rfl⟩)
       ·by_cases hy : v <= 122
        ·have hx' : 97 <= v := by omega
         go_wp2_with (go_at_call 208; refine (Tryz.internal_strconv_lower _ _).mono ?_; rintro e w' ⟨rfl, rfl⟩; simp only [hv])
         all_goals go_ret2
         all_goals (first | exact ⟨rfl, rfl⟩ | exact ⟨by rw [hdec]; rfl, rfl⟩)
        ·have hx' : 97 <= v := by omega
         go_wp2_with (go_at_call 208; refine (Tryz.internal_strconv_lower _ _).mono ?_; rintro e w' ⟨rfl, rfl⟩; simp only [hv])
         all_goals go_ret2
         all_goals (first | exact ⟨rfl, rfl⟩ | exact ⟨by rw [hdec]; rfl, rfl⟩)
  ·have hkk : k = t.size := by omega
   subst hkk
   have hF : par16 acc (bs.drop t.size) = .ok acc := by rw [List.drop_eq_nil_of_le (by omega)]; rfl
   rw [hF] at hdec
   subst ha
   clear hacc hF a0 a1
   go_wp2
   go_ret2
   exact ⟨rfl, rfl⟩
structure Glob (w : World) : Prop where
 sz : max (max 5 9) (max 10 0) < w.heap.size
 m : ∃ m, w.cell? ⟨5, 0, none⟩ = some (.int .i64 m)
 es : ∃ t p, w.cell? ⟨9, 0, none⟩ = some (.iface t p)
 er : ∃ t p, w.cell? ⟨10, 0, none⟩ = some (.iface t p)
 tab : Lib.TabIs Tryz.prog w "internal/strconv.uint64pow10" .u64 Lib.pow10Tab
theorem gPow : Tryz.prog.globalNamed "internal/strconv.uint64pow10" = some 0 := by kernel_rfl
theorem Glob.below {B : Nat} {w w' : World} (h : Glob w) (hb : Below B w w') (hB : max (max 5 9) (max 10 0) < B) : Glob w' where
 sz := Nat.lt_of_lt_of_le h.sz hb.size
 m := by rw [hb.cell (by show 5 < B; omega)]; exact h.m
 es := by rw [hb.cell (by show 9 < B; omega)]; exact h.es
 er := by rw [hb.cell (by show 10 < B; omega)]; exact h.er
 tab := var?_below hb gPow (by omega) h.tab
theorem qHR : ∀ (l : List UInt8) (acc u : Nat), qBK 16 acc l = some u -> par16 acc l = .ok u
 | [], acc, u, h => by simp [qBK] at h; simp [par16, h]
 | c :: r, acc, u, h => by
   unfold qBK at h
   unfold par16
   split at h
   ·cases h
   ·rename_i d hd
    rw [hd]
    split at h
    ·rename_i hle
     simp only [if_neg (show ¬ 4294967295 < acc * 16 + d by omega)]
     exact qHR r _ u h
    ·cases h
theorem qH1 : ∀ (l : List UInt8) (acc : Nat), qBK 16 acc l = none -> par16 acc l = .syntax \/ par16 acc l = .range
 | [], acc, h => by simp [qBK] at h
 | c :: r, acc, h => by
   unfold qBK at h
   unfold par16
   split at h
   ·rename_i hd
    rw [hd]; exact Or.inl rfl
   ·rename_i d hd
    rw [hd]
    split at h
    ·rename_i hle
     simp only [if_neg (show ¬ 4294967295 < acc * 16 + d by omega)]
     exact qH1 r _ h
    ·exact Or.inr (by simp only [if_pos (show 4294967295 < acc * 16 + d by omega)])
theorem qFC : ∀ (l : List UInt8) (acc : Nat), acc <= 4294967295 -> (∀ u, qBK 10 acc l = some u -> Lib.parseUintM 4294967295 acc l = .ok u) /\ (qBK 10 acc l = none -> Lib.parseUintM 4294967295 acc l = .syntax \/ Lib.parseUintM 4294967295 acc l = .range)
 | [], acc, _ => ⟨fun u h => by simp [qBK] at h; simp [Lib.parseUintM, h], fun h => by simp [qBK] at h⟩
 | c :: r, acc, hacc => by
   unfold qBK Lib.parseUintM
   by_cases hd : 48 <= c.toNat /\ c.toNat <= 57
   ·have e : digV 10 c.toNat = some (c.toNat - 48) := by simp [digV, hd]
    rw [e]
    simp only [if_pos hd, if_neg (show ¬ 1844674407370955162 <= acc by omega)]
    by_cases hle : acc * 10 + (c.toNat - 48) <= 4294967295
    ·simp only [if_pos hle, if_neg (show ¬ 4294967295 < acc * 10 + (c.toNat - 48) by omega)]
     exact qFC r _ hle
    ·simp only [if_neg hle, if_pos (show 4294967295 < acc * 10 + (c.toNat - 48) by omega)]
     exact ⟨fun u h => (by cases h), fun _ => (by first | exact Or.inr rfl | exact Or.inr trivial)⟩
   ·have e : digV 10 c.toNat = none := by simp [digV, hd]
    rw [e]
    simp only [if_neg hd]
    exact ⟨fun u h => (by cases h), fun _ => (by first | exact Or.inl rfl | exact Or.inl trivial)⟩
theorem pu10_ok (s : ByteArray) (hs : s.size <= 281474976710656) (u : Nat) (h : qBF 10 s.data.toList = some u) (w : World) :
  Calls Tryz.prog 144 #[.string s, .int .i64 10, .int .i64 32] w fun e w' => e = .returned (.tuple #[.int .u64 u, .nilIface]) /\ Below w.heap.size w w' := by
 have hp : Lib.parseUintB 32 s.data.toList = .ok u := by
  unfold qBF at h
  unfold Lib.parseUintB
  split at h
  ·cases h
  ·rename_i hne
   rw [if_neg hne]
   exact (qFC _ 0 (by omega)).1 u h
 refine (Tryz.strconv_ParseUint_10_at32_ok s (by omega) u hp w).mono ?_
 rintro e w' ⟨rfl, rfl | rfl⟩
 ·exact ⟨rfl, Below.refl _ _⟩
 ·exact ⟨rfl, Lib.bytesWorld_below _ _ _⟩
theorem pu10_no (s : ByteArray) (hs : s.size <= 281474976710656) (h : qBF 10 s.data.toList = none) (w : World) (hG : Glob w) :
  Calls Tryz.prog 144 #[.string s, .int .i64 10, .int .i64 32] w fun e w' => ∃ x N, e = .returned (.tuple #[.int .u64 x, .iface 311 (.pointer (some ⟨N, 0, none⟩))]) /\ Below w.heap.size w w' := by
 have hp : Lib.parseUintB 32 s.data.toList = .syntax \/ Lib.parseUintB 32 s.data.toList = .range := by
  unfold qBF at h
  unfold Lib.parseUintB
  split at h
  ·rename_i he
   rw [if_pos he]
   exact Or.inl rfl
  ·rename_i hne
   rw [if_neg hne]
   exact (qFC _ 0 (by omega)).2 h
 obtain ⟨t1, p1, h1⟩ := hG.es
 obtain ⟨t2, p2, h2⟩ := hG.er
 rcases hp with hp | hp
 ·refine (Tryz.strconv_ParseUint_10_at32_syntax s hs hp _ w h1 (Or.inr ⟨_, _, rfl⟩)).mono ?_
  rintro e w' ⟨N, rfl, _, _, hb⟩
  exact ⟨_, N, rfl, hb⟩
 ·refine (Tryz.strconv_ParseUint_10_at32_range s hs hp _ w h2 (Or.inr ⟨_, _, rfl⟩)).mono ?_
  rintro e w' ⟨N, rfl, _, _, hb⟩
  exact ⟨_, N, rfl, hb⟩
theorem pu16_ok (s : ByteArray) (hs : s.size <= 281474976710656) (u : Nat) (h : qBF 16 s.data.toList = some u) (w : World) :
  Calls Tryz.prog 144 #[.string s, .int .i64 16, .int .i64 32] w fun e w' => e = .returned (.tuple #[.int .u64 u, .nilIface]) /\ Below w.heap.size w w' := by
 have hne : s.data.toList ≠ [] := by intro he; simp [qBF, he] at h
 have hsz : s.size ≠ 0 := by
  intro h0
  apply hne
  have : s.data.toList.length = s.size := Array.length_toList
  exact List.eq_nil_of_length_eq_zero (by omega)
 have hp : par16 0 s.data.toList = .ok u := by
  simp only [qBF, if_neg hne] at h
  exact qHR _ _ _ h
 have hc : ∀ w, Calls Tryz.prog 180 #[.string s, .int .i64 16, .int .i64 32] w fun e w' => e = .returned (.tuple #[.int .u64 u, .nilIface]) /\ Below w.heap.size w w' := by
  intro w
  refine (qDv s hsz (by omega) w).mono ?_
  rintro e w' ⟨rfl, rfl⟩
  rw [hp]
  exact ⟨rfl, Lib.bytesWorld_below _ _ _⟩
 go_enter Tryz.func144, Tryz.ntmps144
 go_wp2_with (go_at_call 180; refine (hc _).mono ?_; rintro e w' ⟨rfl, hb⟩)
 go_ret2
 exact ⟨rfl, hb⟩
theorem pu16_no (s : ByteArray) (hs : s.size <= 281474976710656) (h : qBF 16 s.data.toList = none) (w : World) (hG : Glob w) :
  Calls Tryz.prog 144 #[.string s, .int .i64 16, .int .i64 32] w fun e w' => ∃ x N, e = .returned (.tuple #[.int .u64 x, .iface 311 (.pointer (some ⟨N, 0, none⟩))]) /\ Below w.heap.size w w' := by
 have hc : ∀ w, Calls Tryz.prog 180 #[.string s, .int .i64 16, .int .i64 32] w fun e w' => ∃ x k, (k = 1 \/ k = 2) /\ e = .returned (.tuple #[.int .u64 x, .iface 309 (.int .i64 k)]) /\ Below w.heap.size w w' := by
  intro w
  by_cases hne : s.data.toList = []
  ·have : s = ⟨#[]⟩ := by
    apply ByteArray.ext
    exact Array.toList_inj.1 hne
   subst this
   refine (Tryz.internal_strconv_ParseUint_empty 16 32 w).mono ?_
   rintro e w' ⟨rfl, rfl⟩
   exact ⟨0, 2, Or.inr rfl, rfl, Below.refl _ _⟩
  ·have hsz : s.size ≠ 0 := by
    intro h0
    apply hne
    have : s.data.toList.length = s.size := Array.length_toList
    exact List.eq_nil_of_length_eq_zero (by omega)
   simp only [qBF, if_neg hne] at h
   refine (qDv s hsz (by omega) w).mono ?_
   rintro e w' ⟨rfl, rfl⟩
   rcases qH1 _ _ h with hp | hp
   ·rw [hp]; exact ⟨0, 2, Or.inr rfl, rfl, Lib.bytesWorld_below _ _ _⟩
   ·rw [hp]; exact ⟨4294967295, 1, Or.inl rfl, rfl, Lib.bytesWorld_below _ _ _⟩
 go_enter Tryz.func144, Tryz.ntmps144
 go_wp2_with fail
 refine (hc _).mono ?_
 rintro e w1 ⟨x, k, hk, rfl, hb⟩
 have hG1 := hG.below hb hG.sz
 obtain ⟨t1, p1, h1⟩ := hG1.es
 obtain ⟨t2, p2, h2⟩ := hG1.er
 clear hG1 hG
 rcases hk with rfl | rfl
 ·go_wp2_with fail
  refine (Tryz.strconv_toError_range _ s _ _ _ w1 hs h2 (Or.inr ⟨_, _, rfl⟩)).mono ?_
  rintro e w2 ⟨N, rfl, _, _, hb2⟩
  go_wp2
  go_ret2
  exact ⟨_, N, rfl, hb.trans (hb2.mono hb.size)⟩
 ·go_wp2_with fail
  refine (Tryz.strconv_toError_syntax _ s _ _ _ w1 hs h1 (Or.inr ⟨_, _, rfl⟩)).mono ?_
  rintro e w2 ⟨N, rfl, _, _, hb2⟩
  go_wp2
  go_ret2
  exact ⟨_, N, rfl, hb.trans (hb2.mono hb.size)⟩
theorem qFT (base : Nat) : ∀ (l : List UInt8) (acc u : Nat), acc <= 4294967295 -> qBK base acc l = some u -> u <= 4294967295
 | [], acc, u, ha, h => by simp [qBK] at h; omega
 | c :: r, acc, u, _, h => by
   unfold qBK at h
   split at h
   ·cases h
   ·split at h
    ·rename_i d _ hle
     exact qFT base r _ u hle h
    ·cases h
theorem qFV {base u : Nat} {l : List UInt8} (h : qBF base l = some u) : u <= 4294967295 := by
 unfold qBF at h
 split at h
 ·cases h
 ·exact qFT base l 0 u (by omega) h
def tokV (t : Tok) : Value := .agg #[.int .i64 t.kind, .int .i64 t.n, .string ⟨t.text.toArray⟩]
def tokZ : Value := .agg #[.int .i64 0, .int .i64 0, .string ⟨#[]⟩]
theorem qEN {l : List UInt8} (h : Lib.hasPrefix l [48, 120] = true) : Lib.trimPrefix l [48, 120] = l.drop 2 := by
 simp [Lib.trimPrefix, h]
theorem bcell {W w1 : World} (hb : Below W.heap.size W w1) : (∀ b o, b < W.heap.size -> w1.cell? ⟨b, o, none⟩ = W.cell? ⟨b, o, none⟩) /\ (∀ b o, b < W.heap.size -> w1.frozen? ⟨b, o, none⟩ = W.frozen? ⟨b, o, none⟩) :=
 ⟨fun b o h => hb.cell (p := ⟨b, o, none⟩) h, fun b o h => hb.frozen (p := ⟨b, o, none⟩) h⟩
def qFk (s d : ByteArray) (b : Bool) : Prop := ∀ w, Calls Tryz.prog 143 #[.string s, .string ⟨#[48, 120]⟩] w fun e w' => e = .returned (.tuple #[.string d, .bool b]) /\ w' = w
def PuOk (s : ByteArray) (base n : Int) : Prop := ∀ w, Calls Tryz.prog 144 #[.string s, .int .i64 base, .int .i64 32] w fun e w' => e = .returned (.tuple #[.int .u64 n, .nilIface]) /\ Below w.heap.size w w'
def PuNo (s : ByteArray) (base : Int) : Prop := ∀ w, Glob w -> Calls Tryz.prog 144 #[.string s, .int .i64 base, .int .i64 32] w fun e w' => ∃ x N, e = .returned (.tuple #[.int .u64 x, .iface 311 (.pointer (some ⟨N, 0, none⟩))]) /\ Below w.heap.size w w'
theorem qE3 (s d : ByteArray) (n : Nat) (hn : (n : Int) <= 4294967295) (hcp : qFk s d true) (h : PuOk d 16 n) (w : World) :
  Calls Tryz.prog 114 #[.string s] w fun e w' => e = .returned (.tuple #[tokV ⟨2, n, []⟩, .int .i64 0]) /\ Below w.heap.size w w' := by
 go_enter Tryz.func114, Tryz.ntmps114
 go_wp2_with (go_at_call 143; refine (hcp _).mono ?_; rintro e w' ⟨rfl, rfl⟩)
 refine (h _).mono ?_
 rintro e w1 ⟨rfl, hb⟩
 obtain ⟨hc, hf⟩ := bcell hb
 have hB : Hid (Below w.heap.size w w1) := ((Below.refl _ _).alloc (Nat.le_refl _) _).trans (hb.mono (by simp))
 clear hb
 go_wp2
 refine bodyPost_ret (v := .tuple #[tokV ⟨2, n, []⟩, .int .i64 0]) (by simp [results, Tryz.results114, go_sem, hc, tokV]) rfl ⟨rfl, ?_⟩
 exact ((hB.out.setCell (by simp) _).setCell (by simp) _).setCell (by simp) _
theorem qE7 (s d : ByteArray) (n : Nat) (hn : (n : Int) <= 4294967295) (hcp : qFk s d false) (h : PuOk s 10 n) (w : World) :
  Calls Tryz.prog 114 #[.string s] w fun e w' => e = .returned (.tuple #[tokV ⟨2, n, []⟩, .int .i64 0]) /\ Below w.heap.size w w' := by
 go_enter Tryz.func114, Tryz.ntmps114
 go_wp2_with (go_at_call 143; refine (hcp _).mono ?_; rintro e w' ⟨rfl, rfl⟩)
 refine (h _).mono ?_
 rintro e w1 ⟨rfl, hb⟩
 obtain ⟨hc, hf⟩ := bcell hb
 have hB : Hid (Below w.heap.size w w1) := ((Below.refl _ _).alloc (Nat.le_refl _) _).trans (hb.mono (by simp))
 clear hb
 go_wp2
 refine bodyPost_ret (v := .tuple #[tokV ⟨2, n, []⟩, .int .i64 0]) (by simp [results, Tryz.results114, go_sem, hc, tokV]) rfl ⟨rfl, ?_⟩
 exact ((hB.out.setCell (by simp) _).setCell (by simp) _).setCell (by simp) _
theorem qEz (s d : ByteArray) (hcp : qFk s d true) (h : PuNo d 16) (w : World) (hG : Glob w) :
  Calls Tryz.prog 114 #[.string s] w fun e w' => e = .returned (.tuple #[tokZ, .int .i64 2]) /\ Below w.heap.size w w' := by
 go_enter Tryz.func114, Tryz.ntmps114
 go_wp2_with (go_at_call 143; refine (hcp _).mono ?_; rintro e w' ⟨rfl, rfl⟩)
 refine (h _ (hG.below ((Below.refl _ _).alloc (Nat.le_refl _) _) hG.sz)).mono ?_
 rintro e w1 ⟨x, N, rfl, hb⟩
 obtain ⟨hc, hf⟩ := bcell hb
 have hB : Hid (Below w.heap.size w w1) := ((Below.refl _ _).alloc (Nat.le_refl _) _).trans (hb.mono (by simp))
 clear hb hG
 go_wp2
 refine bodyPost_ret (v := .tuple #[tokZ, .int .i64 2]) (by simp [results, Tryz.results114, go_sem, hc, tokZ]) rfl ⟨rfl, ?_⟩
 exact ((hB.out.setCell (by simp) _).setCell (by simp) _).setCell (by simp) _
theorem qFH (s d : ByteArray) (hcp : qFk s d false) (h : PuNo s 10) (w : World) (hG : Glob w) :
  Calls Tryz.prog 114 #[.string s] w fun e w' => e = .returned (.tuple #[tokZ, .int .i64 2]) /\ Below w.heap.size w w' := by
 go_enter Tryz.func114, Tryz.ntmps114
 go_wp2_with (go_at_call 143; refine (hcp _).mono ?_; rintro e w' ⟨rfl, rfl⟩)
 refine (h _ (hG.below ((Below.refl _ _).alloc (Nat.le_refl _) _) hG.sz)).mono ?_
 rintro e w1 ⟨x, N, rfl, hb⟩
 obtain ⟨hc, hf⟩ := bcell hb
 have hB : Hid (Below w.heap.size w w1) := ((Below.refl _ _).alloc (Nat.le_refl _) _).trans (hb.mono (by simp))
 clear hb hG
 go_wp2
 refine bodyPost_ret (v := .tuple #[tokZ, .int .i64 2]) (by simp [results, Tryz.results114, go_sem, hc, tokZ]) rfl ⟨rfl, ?_⟩
 exact ((hB.out.setCell (by simp) _).setCell (by simp) _).setCell (by simp) _
theorem qIY (s : ByteArray) : qFk s ⟨(Lib.trimPrefix s.data.toList [48, 120]).toArray⟩ (Lib.hasPrefix s.data.toList [48, 120]) := by
 intro w
 refine (Tryz.strings_CutPrefix s ⟨#[48, 120]⟩ w).mono ?_
 rintro e w' ⟨rfl, rfl⟩
 exact ⟨rfl, rfl⟩
def numV (l : List UInt8) : Value := match numL l with
 | none => .tuple #[tokZ, .int .i64 2]
 | some n => .tuple #[tokV ⟨2, n, []⟩, .int .i64 0]
theorem qAI (s : ByteArray) (hs : s.size <= 281474976710656) (w : World) (hG : Glob w) :
  Calls Tryz.prog 114 #[.string s] w fun e w' => e = .returned (numV s.data.toList) /\ Below w.heap.size w w' := by
 have hcp := qIY s
 cases hp : Lib.hasPrefix s.data.toList [48, 120]
 ·rw [hp] at hcp
  have hn : numL s.data.toList = qBF 10 s.data.toList := by simp [numL, hp]
  cases h : qBF 10 s.data.toList with
  | none =>
    rw [show numV s.data.toList = .tuple #[tokZ, .int .i64 2] by simp [numV, hn, h]]
    exact qFH s _ hcp (fun w hG => pu10_no s hs h w hG) w hG
  | some n =>
    rw [show numV s.data.toList = .tuple #[tokV ⟨2, n, []⟩, .int .i64 0] by simp [numV, hn, h]]
    exact qE7 s _ n (by have := qFV h; omega) hcp (fun w => pu10_ok s hs n h w) w
 ·rw [hp, qEN hp] at hcp
  have hn : numL s.data.toList = qBF 16 (s.data.toList.drop 2) := by simp [numL, hp]
  obtain ⟨d, hd⟩ : ∃ d : ByteArray, d = ⟨(s.data.toList.drop 2).toArray⟩ := ⟨_, rfl⟩
  have hdl : d.data.toList = s.data.toList.drop 2 := by rw [hd]
  have hds : d.size <= 281474976710656 := by
   have h1 : d.data.toList.length = d.size := Array.length_toList
   have h2 : s.data.toList.length = s.size := Array.length_toList
   rw [hdl, List.length_drop] at h1
   omega
  rw [<- hd] at hcp
  rw [<- hdl] at hn
  cases h : qBF 16 d.data.toList with
  | none =>
    rw [show numV s.data.toList = .tuple #[tokZ, .int .i64 2] by simp [numV, hn, h]]
    exact qEz s d hcp (fun w hG => pu16_no d hds h w hG) w hG
  | some n =>
    rw [show numV s.data.toList = .tuple #[tokV ⟨2, n, []⟩, .int .i64 0] by simp [numV, hn, h]]
    exact qE3 s d n (by have := qFV h; omega) hcp (fun w => pu16_ok d hds n h w) w
end Go.Proofs.YtgjmbjahgcndnaaGreatDoor.Sc
