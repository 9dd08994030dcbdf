/- The contract of the document's own number: the walks. The tokens of a line, as the document's own Tokens comes to them: byte by byte, a remark and all. The contract of the document's own Tokens: what the walk wants. -/
import Derived.Test.YtagkmgdjkailkaaGreatDoorPut46
import Derived.Test.YtagkmgdjkailkaaGreatDoorScanH
import Derived.Test.YtagkmgdjkailkaaGreatDoorPut14
import Derived.Test.YtagkmgdjkailkaaGreatDoorPut18
namespace Go.Proofs.YtagkmgdjkailkaaGreatDoor.Sc
open Go.RowKit

set_option maxHeartbeats 2000000 in
set_option maxRecDepth 100000 in
theorem rnum16 (s : ByteArray) (hs : s.size ≤ 9223372036854775000) (w : World) (h2 : (2 : Int) < s.size) (hp : ((s.extract 0 2).toList == [48, 120]) = true) (ho : numL s.data.toList = parseN 16 0 (s.extract 2 s.size).data.toList) :
    Calls Tryz.prog 30 #[.string s] w fun e w' => NumAns (numL s.data.toList) e ∧ ∃ m, w' = w.drewN m := by
  have h2' : 2 ≤ s.size := by omega
  have HO0 : Hid (numL s.data.toList = parseN 16 0 (s.extract 2 s.size).data.toList) := ho
  clear ho
  go_enter Tryz.func30, Tryz.ntmps30
  go_wp2
  go_quiet (fail)
  go_wp2
  obtain ⟨ds, hds⟩ : ∃ ds : ByteArray, ds = s.extract 2 s.size := ⟨_, rfl⟩
  have HO : Hid (numL s.data.toList = parseN 16 0 ds.data.toList) := by rw [hds]; exact HO0
  rw [← hds]
  have hsz : ds.size ≤ 9223372036854775000 := by rw [hds]; simp; omega
  have esz : s.size - 2 = ds.size := by rw [hds]; simp
  have hne : (ds.toList == []) = false := not_empty (by omega)
  rw [esz]
  clear hds hp h2 h2' esz HO0
  go_loop [6, 23] (fun n i => ∃ k m : Nat, k ≤ ds.size ∧ i = .int .i64 k ∧ n = .int .i64 m ∧ Hid (NumAt 16 ds.data.toList k m)) (fun _ i => ds.size - (intOf i).toNat)
  case atStart => exact ⟨0, 0, Nat.zero_le _, rfl, rfl, numAt_start _ _⟩
  case round =>
    obtain ⟨k, m, hk, rfl, rfl, HN⟩ := hrel
    have hmb := HN.out.1
    by_cases hlt : k < ds.size
    · have hk1 : (k : Int) < ds.size := by omega
      have hidx := index9 ds k k rfl hlt
      have HDR : Hid (ds.data.toList.drop k = ds[k] :: ds.data.toList.drop (k + 1)) := drop_at hlt
      generalize ds[k] = c at *
      by_cases h1 : 48 ≤ (c.toNat : Int)
      · by_cases h2 : (c.toNat : Int) ≤ 57
        · have hdv : digV 16 c.toNat = some (c.toNat - 48) := by
            unfold digV
            rw [if_pos (by omega)]
          by_cases hm : (4294967295 : Int) < m
          · have HF : Hid (parseN 16 0 ds.data.toList = none) := numAt_no HN.out HDR.out (Or.inr (by omega))
            clear hdv
            go_wp2
            go_ret2
            exact ⟨⟨0, by rw [HO.out, HF.out]; rfl, fun n h => by rw [HO.out, HF.out] at h; cases h⟩, nq, rfl⟩
          · have HF : Hid (NumAt 16 ds.data.toList (k + 1) (m * 16 + (c.toNat - 48))) := numAt_step (by omega) HN.out HDR.out hdv (by omega)
            clear hdv
            go_wp2
            exact ⟨⟨k + 1, m * 16 + (c.toNat - 48), by omega, by go_num, by go_num, HF.out⟩, by simp [intOf]; omega⟩
        · by_cases h3 : 65 ≤ (c.toNat : Int)
          · by_cases h4 : (c.toNat : Int) ≤ 70
            · have h5 : ¬ 97 ≤ (c.toNat : Int) := by omega
              have hdv : digV 16 c.toNat = some (c.toNat - 55) := by
                unfold digV
                rw [if_neg (by omega), if_neg (by omega), if_pos (by omega)]
              by_cases hm : (4294967295 : Int) < m
              · have HF : Hid (parseN 16 0 ds.data.toList = none) := numAt_no HN.out HDR.out (Or.inr (by omega))
                clear hdv
                go_wp2
                go_ret2
                exact ⟨⟨0, by rw [HO.out, HF.out]; rfl, fun n h => by rw [HO.out, HF.out] at h; cases h⟩, nq, rfl⟩
              · have HF : Hid (NumAt 16 ds.data.toList (k + 1) (m * 16 + (c.toNat - 55))) := numAt_step (by omega) HN.out HDR.out hdv (by omega)
                clear hdv
                go_wp2
                exact ⟨⟨k + 1, m * 16 + (c.toNat - 55), by omega, by go_num, by go_num, HF.out⟩, by simp [intOf]; omega⟩
            · by_cases h5 : 97 ≤ (c.toNat : Int)
              · by_cases h6 : (c.toNat : Int) ≤ 102
                · have hdv : digV 16 c.toNat = some (c.toNat - 87) := by
                    unfold digV
                    rw [if_neg (by omega), if_pos (by omega)]
                  by_cases hm : (4294967295 : Int) < m
                  · have HF : Hid (parseN 16 0 ds.data.toList = none) := numAt_no HN.out HDR.out (Or.inr (by omega))
                    clear hdv
                    go_wp2
                    go_ret2
                    exact ⟨⟨0, by rw [HO.out, HF.out]; rfl, fun n h => by rw [HO.out, HF.out] at h; cases h⟩, nq, rfl⟩
                  · have HF : Hid (NumAt 16 ds.data.toList (k + 1) (m * 16 + (c.toNat - 87))) := numAt_step (by omega) HN.out HDR.out hdv (by omega)
                    clear hdv
                    go_wp2
                    exact ⟨⟨k + 1, m * 16 + (c.toNat - 87), by omega, by go_num, by go_num, HF.out⟩, by simp [intOf]; omega⟩
                · have hdv : digV 16 c.toNat = none := by
                    unfold digV
                    rw [if_neg (by omega), if_neg (by omega), if_neg (by omega)]
                  have HF : Hid (parseN 16 0 ds.data.toList = none) := numAt_no HN.out HDR.out (Or.inl hdv)
                  clear hdv
                  go_wp2
                  go_ret2
                  exact ⟨⟨0, by rw [HO.out, HF.out]; rfl, fun n h => by rw [HO.out, HF.out] at h; cases h⟩, nq, rfl⟩
              · have hdv : digV 16 c.toNat = none := by
                  unfold digV
                  rw [if_neg (by omega), if_neg (by omega), if_neg (by omega)]
                have HF : Hid (parseN 16 0 ds.data.toList = none) := numAt_no HN.out HDR.out (Or.inl hdv)
                clear hdv
                go_wp2
                go_ret2
                exact ⟨⟨0, by rw [HO.out, HF.out]; rfl, fun n h => by rw [HO.out, HF.out] at h; cases h⟩, nq, rfl⟩
          · have h5 : ¬ 97 ≤ (c.toNat : Int) := by omega
            have hdv : digV 16 c.toNat = none := by
              unfold digV
              rw [if_neg (by omega), if_neg (by omega), if_neg (by omega)]
            have HF : Hid (parseN 16 0 ds.data.toList = none) := numAt_no HN.out HDR.out (Or.inl hdv)
            clear hdv
            go_wp2
            go_ret2
            exact ⟨⟨0, by rw [HO.out, HF.out]; rfl, fun n h => by rw [HO.out, HF.out] at h; cases h⟩, nq, rfl⟩
      · have h3 : ¬ 65 ≤ (c.toNat : Int) := by omega
        have h5 : ¬ 97 ≤ (c.toNat : Int) := by omega
        have hdv : digV 16 c.toNat = none := by
          unfold digV
          rw [if_neg (by omega), if_neg (by omega), if_neg (by omega)]
        have HF : Hid (parseN 16 0 ds.data.toList = none) := numAt_no HN.out HDR.out (Or.inl hdv)
        clear hdv
        go_wp2
        go_ret2
        exact ⟨⟨0, by rw [HO.out, HF.out]; rfl, fun n h => by rw [HO.out, HF.out] at h; cases h⟩, nq, rfl⟩
    · have hk1 : ¬ (k : Int) < ds.size := by omega
      by_cases hm : (m : Int) < 4294967296
      · have HF : Hid (parseN 16 0 ds.data.toList = some m) := numAt_end HN.out (by have := size_of (rfl : ds.data.toList = _); omega) (by omega)
        go_wp2
        go_ret2
        exact ⟨⟨m, by rw [HO.out, HF.out]; rfl, fun n h => by rw [HO.out, HF.out] at h; injection h with h; omega⟩, nq, rfl⟩
      · have HF : Hid (parseN 16 0 ds.data.toList = none) := HN.out.2.2 (by omega)
        go_wp2
        go_ret2
        exact ⟨⟨m, by rw [HO.out, HF.out]; rfl, fun n h => by rw [HO.out, HF.out] at h; cases h⟩, nq, rfl⟩

set_option maxHeartbeats 2000000 in
set_option maxRecDepth 100000 in
theorem rnum10 (ds : ByteArray) (hs : ds.size ≤ 9223372036854775000) (w : World) (h0 : 0 < ds.size) (hp : ¬ (2 : Int) < ds.size ∨ ((2 : Int) < ds.size ∧ ((ds.extract 0 2).toList == [48, 120]) = false)) (ho : numL ds.data.toList = parseN 10 0 ds.data.toList) :
    Calls Tryz.prog 30 #[.string ds] w fun e w' => NumAns (numL ds.data.toList) e ∧ ∃ m, w' = w.drewN m := by
  have HO : Hid (numL ds.data.toList = parseN 10 0 ds.data.toList) := ho
  have hne : (ds.toList == []) = false := not_empty h0
  clear ho
  rcases hp with hp | ⟨h2, hp⟩
  · go_enter Tryz.func30, Tryz.ntmps30
    go_wp2
    go_loop [6, 23] (fun n i => ∃ k m : Nat, k ≤ ds.size ∧ i = .int .i64 k ∧ n = .int .i64 m ∧ Hid (NumAt 10 ds.data.toList k m)) (fun _ i => ds.size - (intOf i).toNat)
    case atStart => exact ⟨0, 0, Nat.zero_le _, rfl, rfl, numAt_start _ _⟩
    case round =>
      obtain ⟨k, m, hk, rfl, rfl, HN⟩ := hrel
      have hmb := HN.out.1
      by_cases hlt : k < ds.size
      · have hk1 : (k : Int) < ds.size := by omega
        have hidx := index9 ds k k rfl hlt
        have HDR : Hid (ds.data.toList.drop k = ds[k] :: ds.data.toList.drop (k + 1)) := drop_at hlt
        generalize ds[k] = c at *
        by_cases h1 : 48 ≤ (c.toNat : Int)
        · by_cases h2 : (c.toNat : Int) ≤ 57
          · have hdv : digV 10 c.toNat = some (c.toNat - 48) := by
              unfold digV
              rw [if_pos (by omega)]
            by_cases hm : (4294967295 : Int) < m
            · have HF : Hid (parseN 10 0 ds.data.toList = none) := numAt_no HN.out HDR.out (Or.inr (by omega))
              clear hdv
              go_wp2
              go_ret2
              exact ⟨⟨0, by rw [HO.out, HF.out]; rfl, fun n h => by rw [HO.out, HF.out] at h; cases h⟩, 0, rfl⟩
            · have HF : Hid (NumAt 10 ds.data.toList (k + 1) (m * 10 + (c.toNat - 48))) := numAt_step (by omega) HN.out HDR.out hdv (by omega)
              clear hdv
              go_wp2
              exact ⟨⟨k + 1, m * 10 + (c.toNat - 48), by omega, by go_num, by go_num, HF.out⟩, by simp [intOf]; omega⟩
          · have hdv : digV 10 c.toNat = none := by
              unfold digV
              rw [if_neg (by omega), if_neg (by omega), if_neg (by omega)]
            have HF : Hid (parseN 10 0 ds.data.toList = none) := numAt_no HN.out HDR.out (Or.inl hdv)
            clear hdv
            go_wp2
            go_ret2
            exact ⟨⟨0, by rw [HO.out, HF.out]; rfl, fun n h => by rw [HO.out, HF.out] at h; cases h⟩, 0, rfl⟩
        · have hdv : digV 10 c.toNat = none := by
            unfold digV
            rw [if_neg (by omega), if_neg (by omega), if_neg (by omega)]
          have HF : Hid (parseN 10 0 ds.data.toList = none) := numAt_no HN.out HDR.out (Or.inl hdv)
          clear hdv
          go_wp2
          go_ret2
          exact ⟨⟨0, by rw [HO.out, HF.out]; rfl, fun n h => by rw [HO.out, HF.out] at h; cases h⟩, 0, rfl⟩
      · have hk1 : ¬ (k : Int) < ds.size := by omega
        by_cases hm : (m : Int) < 4294967296
        · have HF : Hid (parseN 10 0 ds.data.toList = some m) := numAt_end HN.out (by have := size_of (rfl : ds.data.toList = _); omega) (by omega)
          go_wp2
          go_ret2
          exact ⟨⟨m, by rw [HO.out, HF.out]; rfl, fun n h => by rw [HO.out, HF.out] at h; injection h with h; omega⟩, 0, rfl⟩
        · have HF : Hid (parseN 10 0 ds.data.toList = none) := HN.out.2.2 (by omega)
          go_wp2
          go_ret2
          exact ⟨⟨m, by rw [HO.out, HF.out]; rfl, fun n h => by rw [HO.out, HF.out] at h; cases h⟩, 0, rfl⟩
  · have h2' : 2 ≤ ds.size := by omega
    go_enter Tryz.func30, Tryz.ntmps30
    go_wp2
    clear hp h2 h2'
    go_loop [6, 23] (fun n i => ∃ k m : Nat, k ≤ ds.size ∧ i = .int .i64 k ∧ n = .int .i64 m ∧ Hid (NumAt 10 ds.data.toList k m)) (fun _ i => ds.size - (intOf i).toNat)
    case atStart => exact ⟨0, 0, Nat.zero_le _, rfl, rfl, numAt_start _ _⟩
    case round =>
      obtain ⟨k, m, hk, rfl, rfl, HN⟩ := hrel
      have hmb := HN.out.1
      by_cases hlt : k < ds.size
      · have hk1 : (k : Int) < ds.size := by omega
        have hidx := index9 ds k k rfl hlt
        have HDR : Hid (ds.data.toList.drop k = ds[k] :: ds.data.toList.drop (k + 1)) := drop_at hlt
        generalize ds[k] = c at *
        by_cases h1 : 48 ≤ (c.toNat : Int)
        · by_cases h2 : (c.toNat : Int) ≤ 57
          · have hdv : digV 10 c.toNat = some (c.toNat - 48) := by
              unfold digV
              rw [if_pos (by omega)]
            by_cases hm : (4294967295 : Int) < m
            · have HF : Hid (parseN 10 0 ds.data.toList = none) := numAt_no HN.out HDR.out (Or.inr (by omega))
              clear hdv
              go_wp2
              go_ret2
              exact ⟨⟨0, by rw [HO.out, HF.out]; rfl, fun n h => by rw [HO.out, HF.out] at h; cases h⟩, 0, rfl⟩
            · have HF : Hid (NumAt 10 ds.data.toList (k + 1) (m * 10 + (c.toNat - 48))) := numAt_step (by omega) HN.out HDR.out hdv (by omega)
              clear hdv
              go_wp2
              exact ⟨⟨k + 1, m * 10 + (c.toNat - 48), by omega, by go_num, by go_num, HF.out⟩, by simp [intOf]; omega⟩
          · have hdv : digV 10 c.toNat = none := by
              unfold digV
              rw [if_neg (by omega), if_neg (by omega), if_neg (by omega)]
            have HF : Hid (parseN 10 0 ds.data.toList = none) := numAt_no HN.out HDR.out (Or.inl hdv)
            clear hdv
            go_wp2
            go_ret2
            exact ⟨⟨0, by rw [HO.out, HF.out]; rfl, fun n h => by rw [HO.out, HF.out] at h; cases h⟩, 0, rfl⟩
        · have hdv : digV 10 c.toNat = none := by
            unfold digV
            rw [if_neg (by omega), if_neg (by omega), if_neg (by omega)]
          have HF : Hid (parseN 10 0 ds.data.toList = none) := numAt_no HN.out HDR.out (Or.inl hdv)
          clear hdv
          go_wp2
          go_ret2
          exact ⟨⟨0, by rw [HO.out, HF.out]; rfl, fun n h => by rw [HO.out, HF.out] at h; cases h⟩, 0, rfl⟩
      · have hk1 : ¬ (k : Int) < ds.size := by omega
        by_cases hm : (m : Int) < 4294967296
        · have HF : Hid (parseN 10 0 ds.data.toList = some m) := numAt_end HN.out (by have := size_of (rfl : ds.data.toList = _); omega) (by omega)
          go_wp2
          go_ret2
          exact ⟨⟨m, by rw [HO.out, HF.out]; rfl, fun n h => by rw [HO.out, HF.out] at h; injection h with h; omega⟩, 0, rfl⟩
        · have HF : Hid (parseN 10 0 ds.data.toList = none) := HN.out.2.2 (by omega)
          go_wp2
          go_ret2
          exact ⟨⟨m, by rw [HO.out, HF.out]; rfl, fun n h => by rw [HO.out, HF.out] at h; cases h⟩, 0, rfl⟩

theorem rnum_any (s : ByteArray) (hs : s.size ≤ 9223372036854775000) (h0 : 0 < s.size) (w : World) :
    Calls Tryz.prog 30 #[.string s] w fun e w' => NumAns (numL s.data.toList) e ∧ ∃ m, w' = w.drewN m := by
  have hln := size_of (rfl : s.data.toList = _)
  have hx : (s.extract 0 2).toList = s.data.toList.take 2 := by rw [ByteArray.toList_eq, extract_take]
  by_cases h2 : (2 : Int) < s.size
  · by_cases hp : s.data.toList.take 2 = [48, 120]
    · have hpre : Lib.hasPrefix s.data.toList [48, 120] = true := by
        unfold Lib.hasPrefix
        exact List.isPrefixOf_iff_prefix.2 ⟨s.data.toList.drop 2, by rw [← hp, List.take_append_drop]⟩
      refine rnum16 s hs w h2 (by rw [hx, hp]; rfl) ?_
      rw [extract_drop]
      unfold numL parseU
      rw [if_pos hpre, if_neg]
      intro h
      have := congrArg List.length h
      simp at this
      omega
    · have hpre : ¬ Lib.hasPrefix s.data.toList [48, 120] = true := by
        intro h
        unfold Lib.hasPrefix at h
        obtain ⟨t, ht⟩ := List.isPrefixOf_iff_prefix.1 h
        apply hp
        rw [← ht]
        rfl
      refine rnum10 s hs w h0 (Or.inr ⟨h2, by rw [hx]; exact beq_eq_false_iff_ne.2 hp⟩) ?_
      unfold numL parseU
      rw [if_neg hpre, if_neg]
      intro h
      have h1 : s.size = 0 := by rw [hln, h]; rfl
      omega
  · refine rnum10 s hs w h0 (Or.inl h2) ?_
    by_cases hpre : Lib.hasPrefix s.data.toList [48, 120] = true
    · have e : s.data.toList = [48, 120] := by
        unfold Lib.hasPrefix at hpre
        obtain ⟨t, ht⟩ := List.isPrefixOf_iff_prefix.1 hpre
        rw [← ht] at hln ⊢
        simp at hln
        have : t = [] := List.eq_nil_of_length_eq_zero (by omega)
        rw [this]
        rfl
      rw [e]
      decide
    · unfold numL parseU
      rw [if_neg hpre, if_neg]
      intro h
      have h1 : s.size = 0 := by rw [hln, h]; rfl
      omega

end Go.Proofs.YtagkmgdjkailkaaGreatDoor.Sc

namespace Go.Proofs.YtagkmgdjkailkaaGreatDoor.Sc
open Go.RowKit

theorem code_cons {c : UInt8} (r : List UInt8) (h : c ≠ 59) : code (c :: r) = c :: code r := by
  unfold code
  rw [List.takeWhile_cons, if_pos (by simpa using h)]
theorem code_rem (r : List UInt8) : code (59 :: r) = [] := by
  unfold code
  rw [List.takeWhile_cons, if_neg (by simp)]

theorem takeWhile_code {p : UInt8 → Bool} (hp : p 59 = false) : ∀ l : List UInt8, (code l).takeWhile p = l.takeWhile p
  | [] => rfl
  | c :: r => by
    by_cases h : c = 59
    · subst h; rw [code_rem, List.takeWhile_cons, hp]; rfl
    · rw [code_cons r h, List.takeWhile_cons, List.takeWhile_cons, takeWhile_code hp r]
theorem dropWhile_code {p : UInt8 → Bool} (hp : p 59 = false) : ∀ l : List UInt8, (code l).dropWhile p = code (l.dropWhile p)
  | [] => rfl
  | c :: r => by
    by_cases h : c = 59
    · subst h
      rw [code_rem, List.dropWhile_cons, hp]
      simp [code_rem]
    · rw [code_cons r h, List.dropWhile_cons, List.dropWhile_cons, dropWhile_code hp r]
      split
      · rfl
      · rw [code_cons r h]

theorem tk_nil : toks (code []) = some [] := toks_fin rfl
theorem tk_rem (r : List UInt8) : toks (code (59 :: r)) = some [] := by rw [code_rem]; exact toks_fin rfl

theorem ne59 {p : Int → Bool} (hp : p 59 = false) {c : UInt8} (h : p c.toNat = true) : c ≠ 59 := by
  rintro rfl
  have : p 59 = true := h
  rw [hp] at this
  cases this

theorem tk_blank {c : UInt8} (r : List UInt8) (h : blankB c.toNat = true) : toks (code (c :: r)) = toks (code r) := by
  rw [code_cons r (ne59 (by decide) h), toks_eq, toks_eq (code r)]
  have hp : pb blankB c = true := h
  rw [List.dropWhile_cons, if_pos hp]

theorem dropB {c : UInt8} (r : List UInt8) (h : blankB c.toNat = false) : (c :: r).dropWhile (pb blankB) = c :: r := by
  have hp : pb blankB c = false := h
  rw [List.dropWhile_cons, hp]
  rfl

theorem tk_word {c : UInt8} (r : List UInt8) (hb : blankB c.toNat = false) (h : letterB c.toNat = true) :
    toks (code (c :: r)) = (toks (code ((c :: r).dropWhile (pb wordB)))).map ((⟨1, 0, (c :: r).takeWhile (pb wordB)⟩ : Tok) :: ·) := by
  have h59 := ne59 (by decide) h
  rw [← dropWhile_code (by decide), ← takeWhile_code (by decide)]
  refine toks_tok ?_
  rw [code_cons r h59, dropB _ hb]
  unfold nextT
  have hp : pb letterB c = true := h
  simp only [hp, if_true]

theorem tk_num {c : UInt8} (r : List UInt8) (hb : blankB c.toNat = false) (hl : letterB c.toNat = false) (h : digitB c.toNat = true) {n : Nat} (hn : numL ((c :: r).takeWhile (pb numB)) = some n) :
    toks (code (c :: r)) = (toks (code ((c :: r).dropWhile (pb numB)))).map ((⟨2, n, []⟩ : Tok) :: ·) := by
  have h59 := ne59 (by decide) h
  rw [← dropWhile_code (by decide)]
  refine toks_tok ?_
  rw [← takeWhile_code (by decide), code_cons r h59] at hn
  rw [code_cons r h59, dropB _ hb]
  unfold nextT
  have hp : pb letterB c = false := hl
  have hq : pb digitB c = true := h
  simp [hp, hq, hn]

theorem tk_nonum {c : UInt8} (r : List UInt8) (hb : blankB c.toNat = false) (hl : letterB c.toNat = false) (h : digitB c.toNat = true) (hn : numL ((c :: r).takeWhile (pb numB)) = none) :
    toks (code (c :: r)) = none := by
  have h59 := ne59 (by decide) h
  refine toks_bad ?_
  rw [← takeWhile_code (by decide), code_cons r h59] at hn
  rw [code_cons r h59, dropB _ hb]
  unfold nextT
  have hp : pb letterB c = false := hl
  have hq : pb digitB c = true := h
  simp [hp, hq, hn]

theorem hasPrefix_pair (a : UInt8) (c : UInt8) : ∀ r : List UInt8, Lib.hasPrefix (c :: r) [a, a] = (c == a && r.head? == some a)
  | [] => by simp [Lib.hasPrefix, List.isPrefixOf]
  | d :: r => by
    simp only [Lib.hasPrefix, List.isPrefixOf, Bool.and_true, List.head?_cons]
    rw [Bool.beq_comm (a := a), Bool.beq_comm (a := a)]
    rfl

theorem hasPrefix_code {a c : UInt8} (r : List UInt8) (ha : a ≠ 59) : Lib.hasPrefix (c :: code r) [a, a] = Lib.hasPrefix (c :: r) [a, a] := by
  rw [hasPrefix_pair, hasPrefix_pair]
  cases r with
  | nil => rfl
  | cons d r =>
    by_cases h : d = 59
    · subst h
      rw [code_rem]
      have : ((59 : UInt8) == a) = false := by simpa using fun e => ha e.symm
      simp [this]
    · rw [code_cons r h]; rfl

theorem signN_code {c : UInt8} (r : List UInt8) : signN (c :: code r) = signN (c :: r) := by
  unfold signN
  rw [hasPrefix_code r (by decide), hasPrefix_code r (by decide)]

theorem drop_sign {c : UInt8} (r : List UInt8) (h : c ≠ 59) : (c :: code r).drop (signN (c :: r)) = code ((c :: r).drop (signN (c :: r))) := by
  unfold signN
  split
  · rename_i hh
    rw [hasPrefix_pair, hasPrefix_pair] at hh
    cases r with
    | nil => simp at hh
    | cons d r =>
      have hd : d ≠ 59 := by
        rintro rfl
        simp at hh
      rw [code_cons r hd]
      rfl
  · show (c :: code r).drop (if pb signB c = true then 1 else 0) = code ((c :: r).drop (if pb signB c = true then 1 else 0))
    split
    · rfl
    · rw [List.drop_zero, List.drop_zero, code_cons r h]
theorem take_sign {c : UInt8} (r : List UInt8) : (c :: code r).take (signN (c :: r)) = (c :: r).take (signN (c :: r)) := by
  unfold signN
  split
  · rename_i hh
    rw [hasPrefix_pair, hasPrefix_pair] at hh
    cases r with
    | nil => simp at hh
    | cons d r =>
      have hd : d ≠ 59 := by
        rintro rfl
        simp at hh
      rw [code_cons r hd]
      rfl
  · show (c :: code r).take (if pb signB c = true then 1 else 0) = (c :: r).take (if pb signB c = true then 1 else 0)
    split <;> rfl

theorem tk_nosign {c : UInt8} (r : List UInt8) (hb : blankB c.toNat = false) (hl : letterB c.toNat = false) (hd : digitB c.toNat = false) (h59 : c ≠ 59) (h : signN (c :: r) = 0) :
    toks (code (c :: r)) = none := by
  refine toks_bad ?_
  rw [code_cons r h59, dropB _ hb]
  unfold nextT
  have hp : pb letterB c = false := hl
  have hq : pb digitB c = false := hd
  simp [hp, hq, signN_code, h]

theorem tk_sign {c : UInt8} (r : List UInt8) (hb : blankB c.toNat = false) (hl : letterB c.toNat = false) (hd : digitB c.toNat = false) (h59 : c ≠ 59) (h : signN (c :: r) ≠ 0) :
    toks (code (c :: r)) = (toks (code ((c :: r).drop (signN (c :: r))))).map ((⟨3, 0, (c :: r).take (signN (c :: r))⟩ : Tok) :: ·) := by
  rw [← drop_sign r h59, ← take_sign r]
  refine toks_tok ?_
  rw [code_cons r h59, dropB _ hb]
  unfold nextT
  have hp : pb letterB c = false := hl
  have hq : pb digitB c = false := hd
  simp [hp, hq, signN_code, h]

end Go.Proofs.YtagkmgdjkailkaaGreatDoor.Sc

namespace Go.Proofs.YtagkmgdjkailkaaGreatDoor.Sc
open Go.RowKit

theorem letter_blank (c : UInt8) : (letterB c.toNat && (blankB c.toNat || digitB c.toNat)) = false := by
  have := all8 (fun c => (letterB c.toNat && (blankB c.toNat || digitB c.toNat)) == false) (by decide +kernel) c
  exact beq_iff_eq.1 this
theorem digit_blank (c : UInt8) : (digitB c.toNat && blankB c.toNat) = false := by
  have := all8 (fun c => (digitB c.toNat && blankB c.toNat) == false) (by decide +kernel) c
  exact beq_iff_eq.1 this

theorem kind97 (c : Int) : (kindR c == 97) = letterB c := by
  unfold kindR
  cases letterB c
  · cases digitB c
    · cases blankB c <;> rfl
    · rfl
  · rfl
theorem kind48 {c : Int} (h : letterB c = false) : (kindR c == 48) = digitB c := by
  unfold kindR
  rw [h]
  cases digitB c
  · cases blankB c <;> rfl
  · rfl

theorem kind_word {c : Int} (h : letterB c = true) : kindR c = 97 := by simp [kindR, h]
theorem kind_num {c : Int} (h : letterB c = false) (h1 : digitB c = true) : kindR c = 48 := by simp [kindR, h, h1]
theorem kind_blank {c : Int} (h : letterB c = false) (h1 : digitB c = false) (h2 : blankB c = true) : kindR c = 32 := by simp [kindR, h, h1, h2]
theorem kind_other {c : Int} (h : letterB c = false) (h1 : digitB c = false) (h2 : blankB c = false) : kindR c = 0 := by simp [kindR, h, h1, h2]

/-- How far the inner loops have come: from k on, at j. -/
def SpanAt (p : Int → Bool) (l : List UInt8) (k j : Nat) : Prop := spanL p (l.drop k) = (j - k) + spanL p (l.drop j)

theorem spanAt_start (p : Int → Bool) (l : List UInt8) (k : Nat) : SpanAt p l k k := by unfold SpanAt; omega
theorem spanAt_yes {p : Int → Bool} {l r : List UInt8} {k j : Nat} {c : UInt8} (h : SpanAt p l k j) (hkj : k ≤ j) (hd : l.drop j = c :: r) (hp : p c.toNat = true) : SpanAt p l k (j + 1) := by
  unfold SpanAt at h ⊢
  have hr : l.drop (j + 1) = r := by rw [← List.drop_drop, hd]; rfl
  rw [h, hd, hr]
  have hp' : pb p c = true := hp
  simp only [spanL, List.takeWhile_cons, hp', if_true, List.length_cons]
  omega
theorem spanAt_no {p : Int → Bool} {l r : List UInt8} {k j : Nat} {c : UInt8} (h : SpanAt p l k j) (hd : l.drop j = c :: r) (hp : p c.toNat = false) : spanL p (l.drop k) = j - k := by
  unfold SpanAt at h
  rw [h, hd]
  have hp' : pb p c = false := hp
  simp [spanL, hp']
theorem spanAt_end {p : Int → Bool} {l : List UInt8} {k j : Nat} (h : SpanAt p l k j) (hd : l.length ≤ j) : spanL p (l.drop k) = j - k := by
  unfold SpanAt at h
  rw [h, List.drop_eq_nil_of_le hd]
  simp [spanL]

theorem span_take {p : Int → Bool} {l : List UInt8} {k j : Nat} (h : spanL p (l.drop k) = j - k) : (l.drop k).takeWhile (pb p) = (l.drop k).take (j - k) := by rw [← take_span, h]
theorem span_drop {p : Int → Bool} {l : List UInt8} {k j : Nat} (h : spanL p (l.drop k) = j - k) (hkj : k ≤ j) : (l.drop k).dropWhile (pb p) = l.drop j := by
  rw [← drop_span, h, List.drop_drop]
  congr 1
  omega

theorem extract_list (s : ByteArray) (k j : Nat) : (s.extract k j).data.toList = (s.data.toList.drop k).take (j - k) := by
  simp [ByteArray.data_extract]
theorem extract_bytes (s : ByteArray) (k j : Nat) : s.extract k j = ⟨((s.data.toList.drop k).take (j - k)).toArray⟩ := by
  apply ByteArray.ext
  apply Array.toList_inj.1
  rw [extract_list]

theorem tk_step {l rest : List UInt8} {X : Option (List Tok)} {done : List Tok} {t : Tok} {k : Nat} (h : X = (toks (code (l.drop k))).map (done ++ ·)) (hn : toks (code (l.drop k)) = (toks (code rest)).map (t :: ·)) : X = (toks (code rest)).map ((done ++ [t]) ++ ·) := by
  rw [h, hn]
  cases toks (code rest) <;> simp

/-- What holds at the loop's head. -/
structure TkAt (l : List UInt8) (k : Nat) (done : List Tok) : Prop where
  few : done.length ≤ k
  left : toks (code l) = (toks (code (l.drop k))).map (done ++ ·)

theorem tkAt_start (l : List UInt8) : TkAt l 0 [] := ⟨Nat.le_refl _, by simp⟩

theorem TkAt.word {l : List UInt8} {k j : Nat} {done : List Tok} {c : UInt8} {r : List UInt8} (h : TkAt l k done) (hd : l.drop k = c :: r) (hl : letterB c.toNat = true) (hkj : k ≤ j) (hs : spanL wordB (l.drop k) = j - k) :
    k < j ∧ TkAt l j (done ++ [⟨1, 0, (l.drop k).take (j - k)⟩]) := by
  have hb : blankB c.toNat = false := by have := letter_blank c; rw [hl] at this; simp at this; exact this.1
  have hp : pb wordB c = true := by simp [pb, wordB, hl]
  have hlt : k < j := by
    rw [hd] at hs
    simp only [spanL, List.takeWhile_cons, hp, if_true, List.length_cons] at hs
    omega
  refine ⟨hlt, by simp; have := h.few; omega, ?_⟩
  refine tk_step h.left ?_
  rw [hd, tk_word r hb hl, ← hd, span_take hs, span_drop hs hkj]

theorem TkAt.num {l : List UInt8} {k j : Nat} {done : List Tok} {c : UInt8} {r : List UInt8} {n : Nat} (h : TkAt l k done) (hd : l.drop k = c :: r) (hl : letterB c.toNat = false) (hg : digitB c.toNat = true) (hkj : k ≤ j) (hs : spanL numB (l.drop k) = j - k)
    (hn : numL ((l.drop k).take (j - k)) = some n) : k < j ∧ TkAt l j (done ++ [⟨2, n, []⟩]) := by
  have hb : blankB c.toNat = false := by have := digit_blank c; rw [hg] at this; simpa using this
  have hp : pb numB c = true := by simp [pb, numB, hg]
  have hlt : k < j := by
    rw [hd] at hs
    simp only [spanL, List.takeWhile_cons, hp, if_true, List.length_cons] at hs
    omega
  refine ⟨hlt, by simp; have := h.few; omega, ?_⟩
  refine tk_step h.left ?_
  rw [← span_take hs] at hn
  rw [hd] at hn
  rw [hd, tk_num r hb hl hg hn, ← hd, span_drop hs hkj]

theorem TkAt.nonum {l : List UInt8} {k j : Nat} {done : List Tok} {c : UInt8} {r : List UInt8} (h : TkAt l k done) (hd : l.drop k = c :: r) (hl : letterB c.toNat = false) (hg : digitB c.toNat = true) (hs : spanL numB (l.drop k) = j - k)
    (hn : numL ((l.drop k).take (j - k)) = none) : toks (code l) = none := by
  have hb : blankB c.toNat = false := by have := digit_blank c; rw [hg] at this; simpa using this
  rw [← span_take hs, hd] at hn
  rw [h.left, hd, tk_nonum r hb hl hg hn]
  rfl

theorem TkAt.blank {l : List UInt8} {k : Nat} {done : List Tok} {c : UInt8} {r : List UInt8} (h : TkAt l k done) (hd : l.drop k = c :: r) (hb : blankB c.toNat = true) : TkAt l (k + 1) done := by
  have hr : l.drop (k + 1) = r := by rw [← List.drop_drop, hd]; rfl
  refine ⟨by have := h.few; omega, ?_⟩
  rw [h.left, hd, tk_blank r hb, hr]

theorem TkAt.rem {l : List UInt8} {k : Nat} {done : List Tok} {r : List UInt8} (h : TkAt l k done) (hd : l.drop k = 59 :: r) : toks (code l) = some done := by
  rw [h.left, hd, tk_rem]
  simp

theorem TkAt.fin {l : List UInt8} {k : Nat} {done : List Tok} (h : TkAt l k done) (hd : l.length ≤ k) : toks (code l) = some done := by
  rw [h.left, List.drop_eq_nil_of_le hd, tk_nil]
  simp

theorem TkAt.nosign {l : List UInt8} {k : Nat} {done : List Tok} {c : UInt8} {r : List UInt8} (h : TkAt l k done) (hd : l.drop k = c :: r) (hb : blankB c.toNat = false) (hl : letterB c.toNat = false) (hg : digitB c.toNat = false) (h59 : c ≠ 59) (hs : signN (c :: r) = 0) : toks (code l) = none := by
  rw [h.left, hd, tk_nosign r hb hl hg h59 hs]
  rfl

theorem TkAt.sign {l : List UInt8} {k m : Nat} {done : List Tok} {c : UInt8} {r : List UInt8} (h : TkAt l k done) (hd : l.drop k = c :: r) (hb : blankB c.toNat = false) (hl : letterB c.toNat = false) (hg : digitB c.toNat = false) (h59 : c ≠ 59) (hs : signN (c :: r) = m) (hm : 0 < m) :
    TkAt l (k + m) (done ++ [⟨3, 0, (l.drop k).take m⟩]) := by
  refine ⟨by simp; have := h.few; omega, ?_⟩
  refine tk_step h.left ?_
  rw [hd, tk_sign r hb hl hg h59 (by omega), hs, ← hd, List.drop_drop]

end Go.Proofs.YtagkmgdjkailkaaGreatDoor.Sc
