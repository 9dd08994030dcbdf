import Derived.Test.YtgjmbjahgcndnaaGreatDoorPut4
import Derived.Test.YtgjmbjahgcndnaaGreatDoorShelf
import Derived.Laws.EntriesVeiled
import Derived.Maps.AppendAt
import Derived.Deep.DeepCutAuto
namespace Go.Proofs.YtgjmbjahgcndnaaGreatDoor.Sc
open Go.RowKit
theorem index9 (s : ByteArray) (k : Nat) (i : Int) (hi : i = (k : Int)) (hk : k < s.size) (w : World) : (Instr.index 9 (.string s) (.int .i64 i)).run Tryz.prog w = .ok (.int .u8 (s[k].toNat : Int)) w := by
 subst hi
 simp [Instr.index, run_underlying Tryz.underlying9, asIntOf, hk]
def qAz (f : FuncId) : Prop := ∀ args w, (callFunc f args).run Tryz.prog w = .ok (.enter f args) w
def Asks (f : FuncId) (p : Int -> Bool) : Prop := ∀ (c : UInt8) (w : World), Calls Tryz.prog f #[.int .u8 (c.toNat : Int)] w fun e w' => e = .returned (.bool (p c.toNat)) /\ w' = w
def qW (p : Int -> Bool) (l : List UInt8) : Nat := (l.takeWhile (pb p)).length
theorem qE6 (p : Int -> Bool) : ∀ l : List UInt8, qW p l <= l.length
 | [] => by simp [qW]
 | c :: r => by
   have := qE6 p r
   simp only [qW, List.takeWhile_cons] at this ⊢
   split <;> simp <;> omega
theorem qA9 {s : ByteArray} {k : Nat} (hk : k < s.size) : s.data.toList.drop k = s[k] :: s.data.toList.drop (k + 1) := by
 have h : k < s.data.toList.length := by simpa using hk
 rw [List.drop_eq_getElem_cons h]
 rfl
theorem qCM {p : Int -> Bool} {s : ByteArray} {k : Nat} (hk : k < s.size) (hp : p s[k].toNat = true) (h : qW p s.data.toList = k + qW p (s.data.toList.drop k)) :
  qW p s.data.toList = (k + 1) + qW p (s.data.toList.drop (k + 1)) := by
 rw [h, qA9 hk]
 have hp' : pb p s[k] = true := hp
 simp only [qW, List.takeWhile_cons, hp', if_true, List.length_cons]
 omega
theorem qCv {p : Int -> Bool} {s : ByteArray} {k : Nat} (hk : k < s.size) (hp : p s[k].toNat = false) (h : qW p s.data.toList = k + qW p (s.data.toList.drop k)) :
  qW p s.data.toList = k := by
 rw [h, qA9 hk]
 have hp' : pb p s[k] = false := hp
 simp [qW, hp']
theorem qCE {p : Int -> Bool} {s : ByteArray} {k : Nat} (hk : s.size <= k) (h : qW p s.data.toList = k + qW p (s.data.toList.drop k)) : qW p s.data.toList = k := by
 rw [h, List.drop_eq_nil_of_le (by simpa using hk)]
 simp [qW]
theorem qC3 (s : ByteArray) (f : FuncId) (p : Int -> Bool) (w : World) (hs : s.size <= 9223372036854775000) (he : qAz f) (hp : Asks f p) :
  Calls Tryz.prog 100 #[.string s, .func (.func f) #[] #[]] w fun e w' => e = .returned (.int .i64 (qW p s.data.toList)) /\ w' = w := by
 unfold qAz at he
 go_enter Tryz.func100, Tryz.ntmps100
 go_wp2
 go_loop [5] (fun i => ∃ k : Nat, k <= s.size /\ i = .int .i64 k /\ Hid (qW p s.data.toList = k + qW p (s.data.toList.drop k))) (fun i => s.size - (intOf i).toNat)
 case atStart => exact ⟨0, Nat.zero_le _, rfl, by simp [Hid]⟩
 case round =>
  obtain ⟨k, hk, rfl, HS⟩ := hrel
  by_cases hlt : k < s.size
  ·have hk1 : (k : Int) < s.size := by omega
   have hidx := index9 s k k rfl hlt
   cases hb : p (s[k].toNat : Int)
   ·go_wp2_with fail
    refine (hp _ _).mono ?_
    rintro e w1 ⟨rfl, rfl⟩
    simp only [hb]
    go_wp2
    go_ret
    exact ⟨qR (by rw [qCv hlt hb HS.out]), rfl⟩
   ·go_wp2_with fail
    refine (hp _ _).mono ?_
    rintro e w1 ⟨rfl, rfl⟩
    simp only [hb]
    go_wp2
    exact ⟨⟨k + 1, by omega, by go_num, qCM hlt hb HS.out⟩, by simp [intOf]; omega⟩
  ·have hk1 : ¬ (k : Int) < s.size := by omega
   go_wp2
   go_ret
   exact ⟨qR (by rw [qCE (by omega) HS.out]), rfl⟩
theorem qLG (s : ByteArray) (n : Nat) (B : Nat) (w : World) (hn : n <= s.size) (hc : w.cell? ⟨B, 0, none⟩ = some (.string s)) (hf : w.frozen? ⟨B, 0, none⟩ = false) :
  Calls Tryz.prog 109 #[.int .i64 n, .pointer (some ⟨B, 0, none⟩)] w fun e w' => e = .returned (.string (s.extract 0 n)) /\ w' = w.setCell ⟨B, 0, none⟩ (.string (s.extract n s.size)) := by
 go_enter Tryz.func109, Tryz.ntmps109
 go_wp2
 go_ret
 exact ⟨rfl, rfl⟩
theorem qJH (c : UInt8) (w : World) :
  Calls Tryz.prog 113 #[.int .u8 (c.toNat : Int)] w fun e w' => e = .returned (.bool (qCP c.toNat)) /\ w' = w := by
 cases h1 : qy c.toNat
 ·cases h2 : qAK c.toNat
  ·go_enter Tryz.func113, Tryz.ntmps113
   go_wp2_with (first | (go_at_call 102; refine (qw _ _).mono ?_; rintro e w' ⟨rfl, rfl⟩; simp only [h1]) | (go_at_call 99; refine (qAG _ _).mono ?_; rintro e w' ⟨rfl, rfl⟩; simp only [h2]))
   go_ret
   exact ⟨qO (by simp [qCP, h1, h2]; rfl), rfl⟩
  ·go_enter Tryz.func113, Tryz.ntmps113
   go_wp2_with (first | (go_at_call 102; refine (qw _ _).mono ?_; rintro e w' ⟨rfl, rfl⟩; simp only [h1]) | (go_at_call 99; refine (qAG _ _).mono ?_; rintro e w' ⟨rfl, rfl⟩; simp only [h2]))
   go_ret
   exact ⟨qO (by simp [qCP, h1, h2]), rfl⟩
 ·go_enter Tryz.func113, Tryz.ntmps113
  go_wp2_with (go_at_call 102; refine (qw _ _).mono ?_; rintro e w' ⟨rfl, rfl⟩; simp only [h1])
  go_ret
  exact ⟨qO (by simp [qCP, h1]), rfl⟩
theorem qGM (c : UInt8) (w : World) :
  Calls Tryz.prog 115 #[.int .u8 (c.toNat : Int)] w fun e w' => e = .returned (.bool (numB c.toNat)) /\ w' = w := by
 cases h2 : qAK c.toNat
 ·cases h1 : qy c.toNat
  ·go_enter Tryz.func115, Tryz.ntmps115
   go_wp2_with (first | (go_at_call 102; refine (qw _ _).mono ?_; rintro e w' ⟨rfl, rfl⟩; simp only [h1]) | (go_at_call 99; refine (qAG _ _).mono ?_; rintro e w' ⟨rfl, rfl⟩; simp only [h2]))
   go_ret
   exact ⟨qO (by simp [numB, h1, h2]), rfl⟩
  ·go_enter Tryz.func115, Tryz.ntmps115
   go_wp2_with (first | (go_at_call 102; refine (qw _ _).mono ?_; rintro e w' ⟨rfl, rfl⟩; simp only [h1]) | (go_at_call 99; refine (qAG _ _).mono ?_; rintro e w' ⟨rfl, rfl⟩; simp only [h2]))
   go_ret
   exact ⟨qO (by simp [numB, h1, h2]; rfl), rfl⟩
 ·go_enter Tryz.func115, Tryz.ntmps115
  go_wp2_with (go_at_call 99; refine (qAG _ _).mono ?_; rintro e w' ⟨rfl, rfl⟩; simp only [h2])
  go_ret
  exact ⟨qO (by simp [numB, h2]), rfl⟩
theorem all8 (p : UInt8 -> Bool) (h : ((List.range 256).all fun n => p (UInt8.ofNat n)) = true) (c : UInt8) : p c = true := by
 have := (List.all_eq_true.1 h) c.toNat (List.mem_range.2 c.toNat_lt)
 simpa using this
theorem qKm (c : UInt8) : decide (0 <= Lib.indexByte [32, 9, 13] c) = qAP c.toNat := by
 have := all8 (fun c => decide (0 <= Lib.indexByte [32, 9, 13] c) == qAP c.toNat) (by decide +kernel) c
 simpa using this
theorem sign_all (c : UInt8) : decide (0 <= Lib.indexByte [58, 44, 35, 64, 40, 41, 43, 45, 42, 38, 124, 126, 61] c) = qKh c.toNat := by
 have := all8 (fun c => decide (0 <= Lib.indexByte [58, 44, 35, 64, 40, 41, 43, 45, 42, 38, 124, 126, 61] c) == qKh c.toNat) (by decide +kernel) c
 simpa using this
theorem qDE (c : UInt8) : ((c.toNat : Int)).toNat.toUInt8 = c := by simp
theorem qC8 (c : UInt8) (w : World) :
  Calls Tryz.prog 112 #[.int .u8 (c.toNat : Int)] w fun e w' => e = .returned (.bool (qAP c.toNat)) /\ w' = w := by
 have hb := qKm c
 go_enter Tryz.func112, Tryz.ntmps112
 go_wp2_with (go_at_call 142; refine (Tryz.strings_IndexByte _ _ _).mono ?_; rintro e w' ⟨rfl, rfl⟩; simp only [qDE])
 go_ret
 exact ⟨rfl, rfl⟩
theorem qKw (w : World) :
  Calls Tryz.prog 116 #[.string ⟨#[]⟩] w fun e w' => e = .returned (.tuple #[.agg #[.int .i64 0, .int .i64 0, .string ⟨#[]⟩], .int .i64 2]) /\ Below w.heap.size w w' := by
 go_enter Tryz.func116, Tryz.ntmps116
 go_wp2
 exact bodyPost_ret (v := .tuple #[.agg #[.int .i64 0, .int .i64 0, .string ⟨#[]⟩], .int .i64 2]) (by simp [results, Tryz.results116, go_sem]) rfl ⟨rfl, (Below.refl _ _).alloc (Nat.le_refl _) _⟩
theorem qCC {s : ByteArray} (hs : 0 < s.size) : (s.toList == []) = false := by
 rw [ByteArray.toList_eq]
 have h1 : s.data.toList.length = s.size := Array.length_toList
 cases h : s.data.toList with
 | nil => rw [h] at h1; simp only [List.length_nil] at h1; omega
 | cons a r => rfl
theorem qK4 (s : ByteArray) (hs : 0 < s.size) (w : World) :
  Calls Tryz.prog 116 #[.string s] w fun e w' => e = .returned (.tuple #[.agg #[.int .i64 3, .int .i64 0, .string s], .int .i64 0]) /\ Below w.heap.size w w' := by
 have h0 : (s.toList == []) = false := qCC hs
 go_enter Tryz.func116, Tryz.ntmps116
 go_wp2
 exact bodyPost_ret (v := .tuple #[.agg #[.int .i64 3, .int .i64 0, .string s], .int .i64 0]) (by simp [results, Tryz.results116, go_sem]) rfl ⟨rfl, (Below.refl _ _).alloc (Nat.le_refl _) _⟩
theorem qEP (s : ByteArray) (hs : 0 < s.size) (w : World) :
  Calls Tryz.prog 117 #[.string s] w fun e w' => e = .returned (.int .i64 (qBh s.data.toList)) /\ w' = w := by
 have h0 : (s.toList == []) = false := qCC hs
 have hd : s.data.toList = s[0] :: s.data.toList.drop 1 := by have := qA9 hs; simpa using this
 have hidx := index9 s 0 0 rfl hs
 have hsg := sign_all s[0]
 cases h1 : Lib.hasPrefix s.data.toList [60, 60]
 ·cases h2 : Lib.hasPrefix s.data.toList [62, 62]
  ·cases h3 : qKh (s[0].toNat : Int)
   all_goals
    have HN : Hid (qBh s.data.toList = if qKh (s[0].toNat : Int) = true then 1 else 0) := by
     unfold Hid qBh
     rw [if_neg (by simp [h1, h2]), hd]
     rfl
    rw [h3] at hsg
    clear hd
    go_enter Tryz.func117, Tryz.ntmps117
    go_wp2_with (first | (go_at_call 145; refine (Tryz.strings_HasPrefix _ _ _).mono ?_; rintro e w' ⟨rfl, rfl⟩; simp only [h1, h2]) | (go_at_call 142; refine (Tryz.strings_IndexByte _ _ _).mono ?_; rintro e w' ⟨rfl, rfl⟩; simp only [qDE]))
    go_ret
    exact ⟨qR (by rw [HN.out, h3]; rfl), rfl⟩
  ·have HN : Hid (qBh s.data.toList = 2) := by simp [Hid, qBh, h2]
   clear hd
   go_enter Tryz.func117, Tryz.ntmps117
   go_wp2_with (go_at_call 145; refine (Tryz.strings_HasPrefix _ _ _).mono ?_; rintro e w' ⟨rfl, rfl⟩; simp only [h1, h2])
   go_ret
   exact ⟨qR (by rw [HN.out]; rfl), rfl⟩
 ·have HN : Hid (qBh s.data.toList = 2) := by simp [Hid, qBh, h1]
  clear hd
  go_enter Tryz.func117, Tryz.ntmps117
  go_wp2_with (go_at_call 145; refine (Tryz.strings_HasPrefix _ _ _).mono ?_; rintro e w' ⟨rfl, rfl⟩; simp only [h1])
  go_ret
  exact ⟨qR (by rw [HN.out]; rfl), rfl⟩
structure Rd (w : World) (B : Nat) (s : ByteArray) : Prop where
 c0 : w.cell? ⟨B, 0, none⟩ = some (.string s)
 f0 : w.frozen? ⟨B, 0, none⟩ = false
 c1 : w.cell? ⟨B + 1, 0, none⟩ = some (.func (.func 109) #[] #[.pointer (some ⟨B, 0, none⟩)])
 c2 : w.cell? ⟨B + 2, 0, none⟩ = some (.func (.func 110) #[] #[.pointer (some ⟨B + 1, 0, none⟩), .pointer (some ⟨B, 0, none⟩)])
theorem enters61 : qAz 112 := enters_of Tryz.func112 (by kernel_rfl) rfl
theorem enters62 : qAz 113 := enters_of Tryz.func113 (by kernel_rfl) rfl
theorem enters64 : qAz 115 := enters_of Tryz.func115 (by kernel_rfl) rfl
def qKo (B : Nat) : Value := .func (.func 111) #[] #[.pointer (some ⟨B + 2, 0, none⟩), .pointer (some ⟨B, 0, none⟩), .pointer (some ⟨B + 1, 0, none⟩)]
theorem qIO (s : ByteArray) (w : World) :
  Calls Tryz.prog 85 #[.string s] w fun e w' => e = .returned (qKo w.heap.size) /\ Rd w' w.heap.size s /\ Below w.heap.size w w' /\ w'.heap.size = w.heap.size + 3 := by
 go_enter Tryz.func85, Tryz.ntmps85
 go_wp2
 go_ret
 refine ⟨rfl, ⟨by simp [go_sem], by simp [go_sem], by simp [go_sem], by simp [go_sem]⟩, (((Below.refl _ _).alloc (Nat.le_refl _) _).alloc (by simp) _).alloc (by simp; omega) _, by simp⟩
theorem take_any (s : ByteArray) (f : FuncId) (p : Int -> Bool) (B : Nat) (w : World) (hs : s.size <= 9223372036854775000) (he : qAz f) (hp : Asks f p) (hR : Rd w B s) :
  Calls Tryz.prog 110 #[.func (.func f) #[] #[], .pointer (some ⟨B + 1, 0, none⟩), .pointer (some ⟨B, 0, none⟩)] w fun e w' =>
   e = .returned (.string (s.extract 0 (qW p s.data.toList))) /\ w' = (w.setCell ⟨B, 0, none⟩ (.string (s.extract (qW p s.data.toList) s.size))).drew := by
 have hle := qE6 p s.data.toList
 have hle2 : qW p s.data.toList <= s.size := by simpa using hle
 obtain ⟨c0, f0, c1, c2⟩ := hR
 go_enter Tryz.func110, Tryz.ntmps110
 go_wp2
 go_region_with (first | (go_at_call 100; refine (qC3 _ _ _ _ hs he hp).mono ?_; rintro e w' ⟨rfl, rfl⟩) | (go_at_call 109; refine (qLG _ _ _ w.drew hle2 c0 f0).mono ?_; rintro e w' ⟨rfl, rfl⟩))
 all_goals (go_wp2; go_ret; exact ⟨rfl, rfl⟩)
end Go.Proofs.YtgjmbjahgcndnaaGreatDoor.Sc
