/- The contract of the document's own number: the walks. -/
import Derived.Test.YtagkmgdjkailkaaGreatDoorPut17
import Derived.Test.YtagkmgdjkailkaaGreatDoorPut21
namespace Go.Proofs.YtagkmgdjkailkaaGreatDoor.Sc
open Go.RowKit

set_option maxHeartbeats 2000000 in
set_option maxRecDepth 100000 in
theorem rnum16 (s : ByteArray) (hs : s.size ≤ 9223372036854775000) (w : World) (h2 : (2 : Int) < s.size) (hp : ((s.extract 0 2).toList == [48, 120]) = true) (ho : numL s.data.toList = parseN 16 0 (s.extract 2 s.size).data.toList) :
    Calls Tryz.prog 30 #[.string s] w fun e w' => NumAns (numL s.data.toList) e ∧ ∃ m, w' = w.drewN m := by
  have h2' : 2 ≤ s.size := by omega
  have HO0 : Hid (numL s.data.toList = parseN 16 0 (s.extract 2 s.size).data.toList) := ho
  clear ho
  go_enter Tryz.func30, Tryz.ntmps30
  go_wp2
  go_quiet (fail)
  go_wp2
  obtain ⟨ds, hds⟩ : ∃ ds : ByteArray, ds = s.extract 2 s.size := ⟨_, rfl⟩
  have HO : Hid (numL s.data.toList = parseN 16 0 ds.data.toList) := by rw [hds]; exact HO0
  rw [← hds]
  have hsz : ds.size ≤ 9223372036854775000 := by rw [hds]; simp; omega
  have esz : s.size - 2 = ds.size := by rw [hds]; simp
  have hne : (ds.toList == []) = false := not_empty (by omega)
  rw [esz]
  clear hds hp h2 h2' esz HO0
  go_loop [6, 23] (fun n i => ∃ k m : Nat, k ≤ ds.size ∧ i = .int .i64 k ∧ n = .int .i64 m ∧ Hid (NumAt 16 ds.data.toList k m)) (fun _ i => ds.size - (intOf i).toNat)
  case atStart => exact ⟨0, 0, Nat.zero_le _, rfl, rfl, numAt_start _ _⟩
  case round =>
    obtain ⟨k, m, hk, rfl, rfl, HN⟩ := hrel
    have hmb := HN.out.1
    by_cases hlt : k < ds.size
    · have hk1 : (k : Int) < ds.size := by omega
      have hidx := index9 ds k k rfl hlt
      have HDR : Hid (ds.data.toList.drop k = ds[k] :: ds.data.toList.drop (k + 1)) := drop_at hlt
      generalize ds[k] = c at *
      by_cases h1 : 48 ≤ (c.toNat : Int)
      · by_cases h2 : (c.toNat : Int) ≤ 57
        · have hdv : digV 16 c.toNat = some (c.toNat - 48) := by
            unfold digV
            rw [if_pos (by omega)]
          by_cases hm : (4294967295 : Int) < m
          · have HF : Hid (parseN 16 0 ds.data.toList = none) := numAt_no HN.out HDR.out (Or.inr (by omega))
            clear hdv
            go_wp2
            go_ret2
            exact ⟨⟨0, by rw [HO.out, HF.out]; rfl, fun n h => by rw [HO.out, HF.out] at h; cases h⟩, nq, rfl⟩
          · have HF : Hid (NumAt 16 ds.data.toList (k + 1) (m * 16 + (c.toNat - 48))) := numAt_step (by omega) HN.out HDR.out hdv (by omega)
            clear hdv
            go_wp2
            exact ⟨⟨k + 1, m * 16 + (c.toNat - 48), by omega, by go_num, by go_num, HF.out⟩, by simp [intOf]; omega⟩
        · by_cases h3 : 65 ≤ (c.toNat : Int)
          · by_cases h4 : (c.toNat : Int) ≤ 70
            · have h5 : ¬ 97 ≤ (c.toNat : Int) := by omega
              have hdv : digV 16 c.toNat = some (c.toNat - 55) := by
                unfold digV
                rw [if_neg (by omega), if_neg (by omega), if_pos (by omega)]
              by_cases hm : (4294967295 : Int) < m
              · have HF : Hid (parseN 16 0 ds.data.toList = none) := numAt_no HN.out HDR.out (Or.inr (by omega))
                clear hdv
                go_wp2
                go_ret2
                exact ⟨⟨0, by rw [HO.out, HF.out]; rfl, fun n h => by rw [HO.out, HF.out] at h; cases h⟩, nq, rfl⟩
              · have HF : Hid (NumAt 16 ds.data.toList (k + 1) (m * 16 + (c.toNat - 55))) := numAt_step (by omega) HN.out HDR.out hdv (by omega)
                clear hdv
                go_wp2
                exact ⟨⟨k + 1, m * 16 + (c.toNat - 55), by omega, by go_num, by go_num, HF.out⟩, by simp [intOf]; omega⟩
            · by_cases h5 : 97 ≤ (c.toNat : Int)
              · by_cases h6 : (c.toNat : Int) ≤ 102
                · have hdv : digV 16 c.toNat = some (c.toNat - 87) := by
                    unfold digV
                    rw [if_neg (by omega), if_pos (by omega)]
                  by_cases hm : (4294967295 : Int) < m
                  · have HF : Hid (parseN 16 0 ds.data.toList = none) := numAt_no HN.out HDR.out (Or.inr (by omega))
                    clear hdv
                    go_wp2
                    go_ret2
                    exact ⟨⟨0, by rw [HO.out, HF.out]; rfl, fun n h => by rw [HO.out, HF.out] at h; cases h⟩, nq, rfl⟩
                  · have HF : Hid (NumAt 16 ds.data.toList (k + 1) (m * 16 + (c.toNat - 87))) := numAt_step (by omega) HN.out HDR.out hdv (by omega)
                    clear hdv
                    go_wp2
                    exact ⟨⟨k + 1, m * 16 + (c.toNat - 87), by omega, by go_num, by go_num, HF.out⟩, by simp [intOf]; omega⟩
                · have hdv : digV 16 c.toNat = none := by
                    unfold digV
                    rw [if_neg (by omega), if_neg (by omega), if_neg (by omega)]
                  have HF : Hid (parseN 16 0 ds.data.toList = none) := numAt_no HN.out HDR.out (Or.inl hdv)
                  clear hdv
                  go_wp2
                  go_ret2
                  exact ⟨⟨0, by rw [HO.out, HF.out]; rfl, fun n h => by rw [HO.out, HF.out] at h; cases h⟩, nq, rfl⟩
              · have hdv : digV 16 c.toNat = none := by
                  unfold digV
                  rw [if_neg (by omega), if_neg (by omega), if_neg (by omega)]
                have HF : Hid (parseN 16 0 ds.data.toList = none) := numAt_no HN.out HDR.out (Or.inl hdv)
                clear hdv
                go_wp2
                go_ret2
                exact ⟨⟨0, by rw [HO.out, HF.out]; rfl, fun n h => by rw [HO.out, HF.out] at h; cases h⟩, nq, rfl⟩
          · have h5 : ¬ 97 ≤ (c.toNat : Int) := by omega
            have hdv : digV 16 c.toNat = none := by
              unfold digV
              rw [if_neg (by omega), if_neg (by omega), if_neg (by omega)]
            have HF : Hid (parseN 16 0 ds.data.toList = none) := numAt_no HN.out HDR.out (Or.inl hdv)
            clear hdv
            go_wp2
            go_ret2
            exact ⟨⟨0, by rw [HO.out, HF.out]; rfl, fun n h => by rw [HO.out, HF.out] at h; cases h⟩, nq, rfl⟩
      · have h3 : ¬ 65 ≤ (c.toNat : Int) := by omega
        have h5 : ¬ 97 ≤ (c.toNat : Int) := by omega
        have hdv : digV 16 c.toNat = none := by
          unfold digV
          rw [if_neg (by omega), if_neg (by omega), if_neg (by omega)]
        have HF : Hid (parseN 16 0 ds.data.toList = none) := numAt_no HN.out HDR.out (Or.inl hdv)
        clear hdv
        go_wp2
        go_ret2
        exact ⟨⟨0, by rw [HO.out, HF.out]; rfl, fun n h => by rw [HO.out, HF.out] at h; cases h⟩, nq, rfl⟩
    · have hk1 : ¬ (k : Int) < ds.size := by omega
      by_cases hm : (m : Int) < 4294967296
      · have HF : Hid (parseN 16 0 ds.data.toList = some m) := numAt_end HN.out (by have := size_of (rfl : ds.data.toList = _); omega) (by omega)
        go_wp2
        go_ret2
        exact ⟨⟨m, by rw [HO.out, HF.out]; rfl, fun n h => by rw [HO.out, HF.out] at h; injection h with h; omega⟩, nq, rfl⟩
      · have HF : Hid (parseN 16 0 ds.data.toList = none) := HN.out.2.2 (by omega)
        go_wp2
        go_ret2
        exact ⟨⟨m, by rw [HO.out, HF.out]; rfl, fun n h => by rw [HO.out, HF.out] at h; cases h⟩, nq, rfl⟩

set_option maxHeartbeats 2000000 in
set_option maxRecDepth 100000 in
theorem rnum10 (ds : ByteArray) (hs : ds.size ≤ 9223372036854775000) (w : World) (h0 : 0 < ds.size) (hp : ¬ (2 : Int) < ds.size ∨ ((2 : Int) < ds.size ∧ ((ds.extract 0 2).toList == [48, 120]) = false)) (ho : numL ds.data.toList = parseN 10 0 ds.data.toList) :
    Calls Tryz.prog 30 #[.string ds] w fun e w' => NumAns (numL ds.data.toList) e ∧ ∃ m, w' = w.drewN m := by
  have HO : Hid (numL ds.data.toList = parseN 10 0 ds.data.toList) := ho
  have hne : (ds.toList == []) = false := not_empty h0
  clear ho
  rcases hp with hp | ⟨h2, hp⟩
  · go_enter Tryz.func30, Tryz.ntmps30
    go_wp2
    go_loop [6, 23] (fun n i => ∃ k m : Nat, k ≤ ds.size ∧ i = .int .i64 k ∧ n = .int .i64 m ∧ Hid (NumAt 10 ds.data.toList k m)) (fun _ i => ds.size - (intOf i).toNat)
    case atStart => exact ⟨0, 0, Nat.zero_le _, rfl, rfl, numAt_start _ _⟩
    case round =>
      obtain ⟨k, m, hk, rfl, rfl, HN⟩ := hrel
      have hmb := HN.out.1
      by_cases hlt : k < ds.size
      · have hk1 : (k : Int) < ds.size := by omega
        have hidx := index9 ds k k rfl hlt
        have HDR : Hid (ds.data.toList.drop k = ds[k] :: ds.data.toList.drop (k + 1)) := drop_at hlt
        generalize ds[k] = c at *
        by_cases h1 : 48 ≤ (c.toNat : Int)
        · by_cases h2 : (c.toNat : Int) ≤ 57
          · have hdv : digV 10 c.toNat = some (c.toNat - 48) := by
              unfold digV
              rw [if_pos (by omega)]
            by_cases hm : (4294967295 : Int) < m
            · have HF : Hid (parseN 10 0 ds.data.toList = none) := numAt_no HN.out HDR.out (Or.inr (by omega))
              clear hdv
              go_wp2
              go_ret2
              exact ⟨⟨0, by rw [HO.out, HF.out]; rfl, fun n h => by rw [HO.out, HF.out] at h; cases h⟩, 0, rfl⟩
            · have HF : Hid (NumAt 10 ds.data.toList (k + 1) (m * 10 + (c.toNat - 48))) := numAt_step (by omega) HN.out HDR.out hdv (by omega)
              clear hdv
              go_wp2
              exact ⟨⟨k + 1, m * 10 + (c.toNat - 48), by omega, by go_num, by go_num, HF.out⟩, by simp [intOf]; omega⟩
          · have hdv : digV 10 c.toNat = none := by
              unfold digV
              rw [if_neg (by omega), if_neg (by omega), if_neg (by omega)]
            have HF : Hid (parseN 10 0 ds.data.toList = none) := numAt_no HN.out HDR.out (Or.inl hdv)
            clear hdv
            go_wp2
            go_ret2
            exact ⟨⟨0, by rw [HO.out, HF.out]; rfl, fun n h => by rw [HO.out, HF.out] at h; cases h⟩, 0, rfl⟩
        · have hdv : digV 10 c.toNat = none := by
            unfold digV
            rw [if_neg (by omega), if_neg (by omega), if_neg (by omega)]
          have HF : Hid (parseN 10 0 ds.data.toList = none) := numAt_no HN.out HDR.out (Or.inl hdv)
          clear hdv
          go_wp2
          go_ret2
          exact ⟨⟨0, by rw [HO.out, HF.out]; rfl, fun n h => by rw [HO.out, HF.out] at h; cases h⟩, 0, rfl⟩
      · have hk1 : ¬ (k : Int) < ds.size := by omega
        by_cases hm : (m : Int) < 4294967296
        · have HF : Hid (parseN 10 0 ds.data.toList = some m) := numAt_end HN.out (by have := size_of (rfl : ds.data.toList = _); omega) (by omega)
          go_wp2
          go_ret2
          exact ⟨⟨m, by rw [HO.out, HF.out]; rfl, fun n h => by rw [HO.out, HF.out] at h; injection h with h; omega⟩, 0, rfl⟩
        · have HF : Hid (parseN 10 0 ds.data.toList = none) := HN.out.2.2 (by omega)
          go_wp2
          go_ret2
          exact ⟨⟨m, by rw [HO.out, HF.out]; rfl, fun n h => by rw [HO.out, HF.out] at h; cases h⟩, 0, rfl⟩
  · have h2' : 2 ≤ ds.size := by omega
    go_enter Tryz.func30, Tryz.ntmps30
    go_wp2
    clear hp h2 h2'
    go_loop [6, 23] (fun n i => ∃ k m : Nat, k ≤ ds.size ∧ i = .int .i64 k ∧ n = .int .i64 m ∧ Hid (NumAt 10 ds.data.toList k m)) (fun _ i => ds.size - (intOf i).toNat)
    case atStart => exact ⟨0, 0, Nat.zero_le _, rfl, rfl, numAt_start _ _⟩
    case round =>
      obtain ⟨k, m, hk, rfl, rfl, HN⟩ := hrel
      have hmb := HN.out.1
      by_cases hlt : k < ds.size
      · have hk1 : (k : Int) < ds.size := by omega
        have hidx := index9 ds k k rfl hlt
        have HDR : Hid (ds.data.toList.drop k = ds[k] :: ds.data.toList.drop (k + 1)) := drop_at hlt
        generalize ds[k] = c at *
        by_cases h1 : 48 ≤ (c.toNat : Int)
        · by_cases h2 : (c.toNat : Int) ≤ 57
          · have hdv : digV 10 c.toNat = some (c.toNat - 48) := by
              unfold digV
              rw [if_pos (by omega)]
            by_cases hm : (4294967295 : Int) < m
            · have HF : Hid (parseN 10 0 ds.data.toList = none) := numAt_no HN.out HDR.out (Or.inr (by omega))
              clear hdv
              go_wp2
              go_ret2
              exact ⟨⟨0, by rw [HO.out, HF.out]; rfl, fun n h => by rw [HO.out, HF.out] at h; cases h⟩, 0, rfl⟩
            · have HF : Hid (NumAt 10 ds.data.toList (k + 1) (m * 10 + (c.toNat - 48))) := numAt_step (by omega) HN.out HDR.out hdv (by omega)
              clear hdv
              go_wp2
              exact ⟨⟨k + 1, m * 10 + (c.toNat - 48), by omega, by go_num, by go_num, HF.out⟩, by simp [intOf]; omega⟩
          · have hdv : digV 10 c.toNat = none := by
              unfold digV
              rw [if_neg (by omega), if_neg (by omega), if_neg (by omega)]
            have HF : Hid (parseN 10 0 ds.data.toList = none) := numAt_no HN.out HDR.out (Or.inl hdv)
            clear hdv
            go_wp2
            go_ret2
            exact ⟨⟨0, by rw [HO.out, HF.out]; rfl, fun n h => by rw [HO.out, HF.out] at h; cases h⟩, 0, rfl⟩
        · have hdv : digV 10 c.toNat = none := by
            unfold digV
            rw [if_neg (by omega), if_neg (by omega), if_neg (by omega)]
          have HF : Hid (parseN 10 0 ds.data.toList = none) := numAt_no HN.out HDR.out (Or.inl hdv)
          clear hdv
          go_wp2
          go_ret2
          exact ⟨⟨0, by rw [HO.out, HF.out]; rfl, fun n h => by rw [HO.out, HF.out] at h; cases h⟩, 0, rfl⟩
      · have hk1 : ¬ (k : Int) < ds.size := by omega
        by_cases hm : (m : Int) < 4294967296
        · have HF : Hid (parseN 10 0 ds.data.toList = some m) := numAt_end HN.out (by have := size_of (rfl : ds.data.toList = _); omega) (by omega)
          go_wp2
          go_ret2
          exact ⟨⟨m, by rw [HO.out, HF.out]; rfl, fun n h => by rw [HO.out, HF.out] at h; injection h with h; omega⟩, 0, rfl⟩
        · have HF : Hid (parseN 10 0 ds.data.toList = none) := HN.out.2.2 (by omega)
          go_wp2
          go_ret2
          exact ⟨⟨m, by rw [HO.out, HF.out]; rfl, fun n h => by rw [HO.out, HF.out] at h; cases h⟩, 0, rfl⟩

theorem rnum_any (s : ByteArray) (hs : s.size ≤ 9223372036854775000) (h0 : 0 < s.size) (w : World) :
    Calls Tryz.prog 30 #[.string s] w fun e w' => NumAns (numL s.data.toList) e ∧ ∃ m, w' = w.drewN m := by
  have hln := size_of (rfl : s.data.toList = _)
  have hx : (s.extract 0 2).toList = s.data.toList.take 2 := by rw [ByteArray.toList_eq, extract_take]
  by_cases h2 : (2 : Int) < s.size
  · by_cases hp : s.data.toList.take 2 = [48, 120]
    · have hpre : Lib.hasPrefix s.data.toList [48, 120] = true := by
        unfold Lib.hasPrefix
        exact List.isPrefixOf_iff_prefix.2 ⟨s.data.toList.drop 2, by rw [← hp, List.take_append_drop]⟩
      refine rnum16 s hs w h2 (by rw [hx, hp]; rfl) ?_
      rw [extract_drop]
      unfold numL parseU
      rw [if_pos hpre, if_neg]
      intro h
      have := congrArg List.length h
      simp at this
      omega
    · have hpre : ¬ Lib.hasPrefix s.data.toList [48, 120] = true := by
        intro h
        unfold Lib.hasPrefix at h
        obtain ⟨t, ht⟩ := List.isPrefixOf_iff_prefix.1 h
        apply hp
        rw [← ht]
        rfl
      refine rnum10 s hs w h0 (Or.inr ⟨h2, by rw [hx]; exact beq_eq_false_iff_ne.2 hp⟩) ?_
      unfold numL parseU
      rw [if_neg hpre, if_neg]
      intro h
      have h1 : s.size = 0 := by rw [hln, h]; rfl
      omega
  · refine rnum10 s hs w h0 (Or.inl h2) ?_
    by_cases hpre : Lib.hasPrefix s.data.toList [48, 120] = true
    · have e : s.data.toList = [48, 120] := by
        unfold Lib.hasPrefix at hpre
        obtain ⟨t, ht⟩ := List.isPrefixOf_iff_prefix.1 hpre
        rw [← ht] at hln ⊢
        simp at hln
        have : t = [] := List.eq_nil_of_length_eq_zero (by omega)
        rw [this]
        rfl
      rw [e]
      decide
    · unfold numL parseU
      rw [if_neg hpre, if_neg]
      intro h
      have h1 : s.size = 0 := by rw [hln, h]; rfl
      omega

end Go.Proofs.YtagkmgdjkailkaaGreatDoor.Sc
