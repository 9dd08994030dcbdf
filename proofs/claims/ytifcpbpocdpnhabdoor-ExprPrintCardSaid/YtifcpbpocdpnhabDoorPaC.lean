/- The contract of the reader's takeKind. -/
import Derived.Test.YtifcpbpocdpnhabDoorPaB
import Derived.Test.YtifcpbpocdpnhabDoorExLv
namespace Go.Proofs.YtifcpbpocdpnhabDoor
open Go.RowKit

/-- Which kind, from k on, has so many Kids, is so strong, and has the next token as its sign: 0, if none has. -/
def kindFrom (kids st : Int) (l : List Tok) : Nat → Nat → Int
  | 0, _ => 0
  | f + 1, k => if kKids k = kids ∧ kStr k = st ∧ signIs l (kSign k) = true then (k : Int) else kindFrom kids st l f (k + 1)

theorem kind_yes {kids st : Int} {l : List Tok} {k : Nat} (hk : k < 12) (hf : kindFrom kids st l 12 0 = kindFrom kids st l (12 - k) k) (h : kKids k = kids ∧ kStr k = st ∧ signIs l (kSign k) = true) : kindFrom kids st l 12 0 = (k : Int) := by
  rw [hf]
  obtain ⟨j, hj⟩ : ∃ j, 12 - k = j + 1 := ⟨11 - k, by omega⟩
  rw [hj]
  unfold kindFrom
  rw [if_pos h]
theorem kind_no {kids st : Int} {l : List Tok} {k : Nat} (hk : k < 12) (hf : kindFrom kids st l 12 0 = kindFrom kids st l (12 - k) k) (h : ¬ (kKids k = kids ∧ kStr k = st ∧ signIs l (kSign k) = true)) : kindFrom kids st l 12 0 = kindFrom kids st l (12 - (k + 1)) (k + 1) := by
  rw [hf]
  obtain ⟨j, hj⟩ : ∃ j, 12 - k = j + 1 := ⟨11 - k, by omega⟩
  have hj' : 12 - (k + 1) = j := by omega
  rw [hj, hj']
  rw [kindFrom, if_neg h]

theorem sign_is {l : List Tok} {s : List UInt8} (hs : s ≠ []) : signIs l s = decide (signOf l = s) := by
  cases l with
  | nil => simp [signIs, signOf]; exact hs
  | cons t r =>
    by_cases h : t.kind = 3
    · simp [signIs, signOf, h]
    · simp [signIs, signOf, h]; exact hs

/-- How many tokens were taken. -/
def took (k : Int) : Nat := if k = 0 then 0 else 1

def kindAt (kids st : Int) (l : List Tok) : Int := kindFrom kids st l 12 0

theorem kindAt_one (l : List Tok) : kindAt 1 0 l = if signOf l = [45] then 3 else if signOf l = [126] then 4 else 0 := by
  unfold kindAt
  simp [kindFrom, kKids, kStr, kSign, sign_is]
theorem kindAt_two (st : Nat) (l : List Tok) (h1 : 1 ≤ st) (h5 : st ≤ 5) : kindAt 2 st l = if (strengthR (signOf l)).1 = st then (strengthR (signOf l)).2 else 0 := by
  unfold kindAt strengthR
  generalize hs : signOf l = s
  have : st = 1 ∨ st = 2 ∨ st = 3 ∨ st = 4 ∨ st = 5 := by omega
  by_cases e1 : s = [124]
  · subst e1; rcases this with rfl | rfl | rfl | rfl | rfl <;> simp [kindFrom, kKids, kStr, kSign, sign_is, hs]
  by_cases e2 : s = [38]
  · subst e2; rcases this with rfl | rfl | rfl | rfl | rfl <;> simp [kindFrom, kKids, kStr, kSign, sign_is, hs]
  by_cases e3 : s = [60, 60]
  · subst e3; rcases this with rfl | rfl | rfl | rfl | rfl <;> simp [kindFrom, kKids, kStr, kSign, sign_is, hs]
  by_cases e4 : s = [62, 62]
  · subst e4; rcases this with rfl | rfl | rfl | rfl | rfl <;> simp [kindFrom, kKids, kStr, kSign, sign_is, hs]
  by_cases e5 : s = [43]
  · subst e5; rcases this with rfl | rfl | rfl | rfl | rfl <;> simp [kindFrom, kKids, kStr, kSign, sign_is, hs]
  by_cases e6 : s = [45]
  · subst e6; rcases this with rfl | rfl | rfl | rfl | rfl <;> simp [kindFrom, kKids, kStr, kSign, sign_is, hs]
  by_cases e7 : s = [42]
  · subst e7; rcases this with rfl | rfl | rfl | rfl | rfl <;> simp [kindFrom, kKids, kStr, kSign, sign_is, hs]
  rcases this with rfl | rfl | rfl | rfl | rfl <;> simp [kindFrom, kKids, kStr, kSign, sign_is, hs, e1, e2, e3, e4, e5, e6, e7]

theorem Rdr.alloc {w : World} {B : Nat} {ts : List Tok} {c : Nat} (h : Rdr w B ts c) (o : Obj) : Rdr (w.alloc o) B ts c :=
  h.below ((Below.refl w.heap.size w).alloc (Nat.le_refl _) o) h.lt
theorem galloc (w : World) (o : Obj) (r : Option Nat) : w.grownBy (w.alloc o) r := gbelow r ((Below.refl w.heap.size w).alloc (Nat.le_refl _) o) (Nat.le_refl _)

set_option maxHeartbeats 2000000 in
theorem takeKind_any (kids st : Int) (B : Nat) (ts : List Tok) (c : Nat) (w : World) (hR : Rdr w B ts c) (hL : KLaid w) (hkd : kids ≠ 0) :
    Calls Tryd.prog 44 #[.pointer (some ⟨B, 0, none⟩), .int .i64 kids, .int .i64 st] w fun e w' => e = .returned (.int .i64 (kindAt kids st (ts.drop c))) ∧ Rdr w' B ts (c + took (kindAt kids st (ts.drop c))) ∧ w.grownBy w' (some B) := by
  obtain ⟨t, fr, hblk⟩ := hL.blk
  go_enter Tryd.func44, Tryd.ntmps44
  go_wp2_with (refine wpList_load_row rfl 82 _ rfl 0 rfl t kCells fr _ hblk Tryd.underlying82 rfl kSize ?_)
  clear hblk hL
  go_loopw [10] (fun i wr => ∃ k : Nat, k ≤ 12 ∧ i = .int .i64 k ∧ Hid (Rdr wr B ts c) ∧ Hid (w.grownBy wr (some B)) ∧ Hid (kindFrom kids st (ts.drop c) 12 0 = kindFrom kids st (ts.drop c) (12 - k) k)) (fun i _ => 12 - (intOf i).toNat)
  case atStart => exact ⟨0, Nat.zero_le _, rfl, hR, World.grownBy.refl _ _, rfl⟩
  case round =>
    obtain ⟨k, hk, rfl, HR, HG, HF⟩ := hrel
    clear hR
    by_cases hlt : k < 12
    · have hi := kIndex k hlt
      have hk' : (k : Int) < 12 := by omega
      by_cases h1 : kKids k = kids
      · have e1 : (kKids k == kids) = true := by simpa using h1
        by_cases h2 : kStr k = st
        · have e2 : (kStr k == st) = true := by simpa using h2
          cases h3 : signIs (ts.drop c) (kSign k)
          · have HN := kind_no hlt HF.out (by simp [h3])
            have HN2 : Hid (kindFrom kids st (ts.drop c) 12 0 = kindFrom kids st (ts.drop c) (12 - (k + 1)) (k + 1)) := HN
            clear HN HF
            go_wp2_with (go_at_call 45; refine (takeSign_no ⟨(kSign k).toArray⟩ B ts c _ (HR.out.alloc _) h3).mono ?_; rintro e w2 ⟨rfl, hR2, hg2⟩; have HR2 : Hid (Rdr w2 B ts c) := hR2; have HG2 : Hid (w.grownBy w2 (some B)) := gtrans (gtrans HG.out (galloc _ _ _)) hg2; clear hR2 hg2)
            exact ⟨⟨k + 1, by omega, by go_num, HR2, HG2, HN2⟩, by simp [intOf]; omega⟩
          · have HN := kind_yes hlt HF.out ⟨h1, h2, h3⟩
            have HN2 : Hid (kindAt kids st (ts.drop c) = (k : Int)) := HN
            have HK : Hid (k ≠ 0) := by
              rintro rfl
              exact hkd h1.symm
            clear HN HF
            go_wp2_with (go_at_call 45; refine (takeSign_yes ⟨(kSign k).toArray⟩ B ts c _ (HR.out.alloc _) h3).mono ?_; rintro e w2 ⟨rfl, hR2, hg2⟩; have HR2 : Hid (Rdr w2 B ts (c + 1)) := hR2; have HG2 : Hid (w.grownBy w2 (some B)) := gtrans (gtrans HG.out (galloc _ _ _)) hg2; clear hR2 hg2)
            go_ret
            rw [HN2.out]
            exact ⟨rfl, by rw [took, if_neg (by have := HK.out; omega)]; exact HR2.out, HG2.out⟩
        · have e2 : (kStr k == st) = false := by simpa using h2
          have HN2 : Hid (kindFrom kids st (ts.drop c) 12 0 = kindFrom kids st (ts.drop c) (12 - (k + 1)) (k + 1)) := kind_no hlt HF.out (by simp [h2])
          clear HF
          go_wp2
          exact ⟨⟨k + 1, by omega, by go_num, HR.out.alloc _, gtrans HG.out (galloc _ _ _), HN2⟩, by simp [intOf]; omega⟩
      · have e1 : (kKids k == kids) = false := by simpa using h1
        have HN2 : Hid (kindFrom kids st (ts.drop c) 12 0 = kindFrom kids st (ts.drop c) (12 - (k + 1)) (k + 1)) := kind_no hlt HF.out (by simp [h1])
        clear HF
        go_wp2
        exact ⟨⟨k + 1, by omega, by go_num, HR.out.alloc _, gtrans HG.out (galloc _ _ _), HN2⟩, by simp [intOf]; omega⟩
    · have hk' : ¬ (k : Int) < 12 := by omega
      have HX : Hid (kindAt kids st (ts.drop c) = 0) := by
        unfold Hid kindAt
        rw [HF.out, show 12 - k = 0 by omega]; rfl
      clear HF
      go_wp2
      go_ret
      rw [HX.out]
      exact ⟨rfl, HR.out, HG.out⟩

end Go.Proofs.YtifcpbpocdpnhabDoor
