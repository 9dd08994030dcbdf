/- The contract of the document's own Tokens: the walk. -/
import Derived.Test.YtagkmgdjkailkaaGreatDoorPut23
namespace Go.Proofs.YtagkmgdjkailkaaGreatDoor.Sc
open Go.RowKit

theorem kind_at (c : Int) (w : World) :
    Calls Tryz.prog 29 #[.int .u8 c] w fun e w' => e = .returned (.int .u8 (kindR c)) ∧ w = w' :=
  (kind_any c w).mono fun _ _ h => ⟨h.1, h.2.symm⟩

theorem new3 (w : World) (a b c : Value) : ∀ j u, [a, b, c][j]? = some u → (w.alloc (.cells #[a, b, c] 89)).cell? ((⟨w.heap.size, 0, none⟩ : Addr).add j) = some u := by
  intro j u hj
  match j, hj with
  | 0, hj => simp at hj; subst hj; simp [go_sem, Addr.add]
  | 1, hj => simp at hj; subst hj; simp [go_sem, Addr.add]
  | 2, hj => simp at hj; subst hj; simp [go_sem, Addr.add]

theorem one3 (a b : Int) (c : ByteArray) : ∀ u ∈ [Value.int .i64 a, .int .i64 b, .string c], u.oneCell' = true := by
  intro u hu
  simp at hu
  rcases hu with rfl | rfl | rfl <;> rfl
theorem few_max {n : Nat} (h : n ≤ 80) : n + 1 ≤ maxLen := by unfold maxLen; omega
theorem few_bytes {n : Nat} (h : n ≤ 80) : (n + 1) * 32 ≤ 140737488355328 := by omega
theorem le_alloc {n : Nat} {w : World} (h : n ≤ w.heap.size) (o : Obj) : n ≤ (w.alloc o).heap.size := by simp; omega

theorem numB_letter {c : Int} (h : letterB c = true) (h46 : ¬ c = 46) : numB c = true := by simp [numB, h, h46]

theorem signs_at (c : UInt8) (w : World) :
    Calls Tryz.prog 31 #[.string ⟨#[58, 44, 35, 64, 40, 41, 43, 45, 42, 38, 124, 126, 61]⟩, .int .u8 (c.toNat : Int)] w fun e w' => e = .returned (.bool (signB c.toNat)) ∧ w = w' :=
  (signs_any c w).mono fun _ _ h => ⟨h.1, h.2.symm⟩

theorem owns_belowT {w w' : World} {base n : Nat} {e : TypeId} {size : Nat} {v : Value} {xs : List Value} (h : w.ownsRow base e size v n xs) (hb : Below w.heap.size w w') : w'.ownsRow base e size v n xs := by
  refine ⟨h.1, ?_⟩
  rcases h.2 with h | ⟨g, cap, cur, rfl, hg, hcur, rest⟩
  · exact Or.inl h
  · exact Or.inr ⟨g, cap, cur, rfl, hg, (hb.block g (Array.getElem?_eq_some_iff.1 hcur).1).trans hcur, rest⟩

set_option maxHeartbeats 8000000 in
set_option maxRecDepth 100000 in
theorem rtokens_few (s : ByteArray) (w : World) (h : s.size ≤ 80) :
    Calls Tryz.prog 18 #[.string s] w fun e w' => TokAns w.heap.size w' s.data.toList e ∧ Below w.heap.size w w' := by
  have h' : ¬ (80 : Int) < s.size := by omega
  obtain ⟨i0, hi, hz0, hz1, hz2⟩ := info_parts info84
  have HLN : Hid (s.data.toList.length = s.size) := Array.length_toList
  go_enter Tryz.func18, Tryz.ntmps18
  go_wp2
  go_loopw [4, 5] (fun v i wr => ∃ (k : Nat) (done : List Tok), k ≤ s.size ∧ i = .int .i64 k ∧ wr.ownsRow w.heap.size 89 3 v done.length (tcells done) ∧ Below w.heap.size w wr ∧ Hid (TkAt s.data.toList k done)) (fun _ i _ => s.size - (intOf i).toNat)
  case atStart => exact ⟨0, [], Nat.zero_le _, rfl, World.ownsRow_nil _ _ _ _, Below.refl _ _, tkAt_start _⟩
  case round =>
    obtain ⟨k, done, hk, rfl, hown, hB, HT⟩ := hrel
    have hfew := HT.out.few
    have hszr := hB.size
    have h80 : done.length ≤ 80 := by omega
    by_cases hlt : k < s.size
    · have hk1 : (k : Int) < s.size := by omega
      have hidx := index9 s k k rfl hlt
      have HDR : Hid (s.data.toList.drop k = s[k] :: s.data.toList.drop (k + 1)) := drop_at hlt
      generalize s[k] = c at *
      have HO : Hid (wr.ownsRow w.heap.size 89 3 u4 done.length (tcells done)) := hown
      have HB : Hid (Below w.heap.size w wr) := hB
      clear hown hB
      cases hl : letterB c.toNat
      · cases hg : digitB c.toNat
        · cases hb : blankB c.toNat
          · have hkd := kind_other hl hg hb
            by_cases h59 : (c.toNat : Int) = 59
            · have e59 : ((c.toNat : Int) == 59) = true := by simpa using h59
              have hc : c = 59 := UInt8.toNat_inj.1 (by show c.toNat = 59; omega)
              have HF : Hid (lineErr s.data.toList = 0 ∧ lineList s.data.toList = done) := line_done (by rw [HLN.out]; exact h) (HT.out.rem (by rw [HDR.out, hc]))
              clear hc
              go_wp2_with (go_at_call 29; refine (kind_at _ _).mono ?_; rintro e w' ⟨rfl, rfl⟩)
              go_ret2
              refine ⟨⟨u4, by rw [HF.out.1]; rfl, ?_⟩, HB.out⟩
              rw [HF.out.2]
              exact HO.out
            · have e59 : ((c.toNat : Int) == 59) = false := beq_no h59
              have h59' : c ≠ 59 := by rintro rfl; exact h59 rfl
              by_cases hnx : (k : Int) + 1 < s.size
              · have hkl : k + 1 < s.size := by omega
                have hslice : k + 2 ≤ s.size := by omega
                have hdd : s.data.toList.drop (k + 1) = s[k + 1] :: s.data.toList.drop (k + 2) := drop_at hkl
                have hxl : (s.extract k (k + 2)).toList = [c, s[k + 1]] := by
                  rw [ByteArray.toList_eq, extract_list, show k + 2 - k = 2 by omega, HDR.out, hdd]
                  rfl
                have HDD : Hid (s.data.toList.drop k = c :: s[k + 1] :: s.data.toList.drop (k + 2)) := by rw [← hdd]; exact HDR.out
                clear hdd
                generalize s[k + 1] = d at *
                cases h2 : ((c == 60 && d == 60) || (c == 62 && d == 62))
                · have x1 : ((s.extract k (k + 2)).toList == [60, 60]) = false := by rw [hxl]; simp at h2 ⊢; exact h2.1
                  have x2 : ((s.extract k (k + 2)).toList == [62, 62]) = false := by rw [hxl]; simp at h2 ⊢; exact h2.2
                  have HSN : Hid (signN (c :: d :: s.data.toList.drop (k + 2)) = if signB c.toNat = true then 1 else 0) := by
                    unfold Hid signN
                    rw [hasPrefix_pair, hasPrefix_pair, if_neg]
                    · rfl
                    · simp at h2 ⊢; exact h2
                  clear hxl h2
                  cases hs : signB c.toNat
                  · rw [hs] at HSN
                    have HF : Hid (lineErr s.data.toList = 2 ∧ lineList s.data.toList = []) := line_bad (by rw [HLN.out]; exact h) (HT.out.nosign HDD.out hb hl hg h59' HSN.out)
                    clear HSN
                    go_wp2_with (first | (go_at_call 29; refine (kind_at _ _).mono ?_; rintro e w' ⟨rfl, rfl⟩; simp only [hkd]) | (go_at_call 31; refine (signs_at _ _).mono ?_; rintro e w' ⟨rfl, rfl⟩; simp only [hs]))
                    go_ret2
                    refine ⟨⟨.slice none 0 0, by rw [HF.out.1]; rfl, ?_⟩, HB.out⟩
                    rw [HF.out.2]
                    exact World.ownsRow_nil _ _ _ _
                  · rw [hs] at HSN
                    have HT2 : Hid (TkAt s.data.toList (k + 1) (done ++ [⟨3, 0, (s.data.toList.drop k).take 1⟩])) := HT.out.sign HDD.out hb hl hg h59' HSN.out (by decide)
                    clear HSN
                    go_wp2_with (first
                      | (at_builtin; refine wpList_append_own _ rfl _ _ 61 rfl w.heap.size 89 i0 _ 3 32 Tryz.underlying61 hi hz0 hz1 hz2 rfl (by decide) _ _ _ rfl (HO.out.alloc _) ⟨wr.heap.size, 0, none⟩ 1 1 [.int .i64 3, .int .i64 0, .string (s.extract k (k + 1))] rfl rfl (new3 _ _ _ _) (one3 _ _ _) (few_max h80) (few_bytes h80) (le_alloc hszr _) ?_)
                      | (go_at_call 29; refine (kind_at _ _).mono ?_; rintro e w' ⟨rfl, rfl⟩; simp only [hkd])
                      | (go_at_call 31; refine (signs_at _ _).mono ?_; rintro e w' ⟨rfl, rfl⟩; simp only [hs])
                      | go_in)
                    · intro v' w3 hown3 hgrow _
                      have HO3 : Hid (w3.ownsRow w.heap.size 89 3 v' (done.length + 1) (tcells done ++ [.int .i64 3, .int .i64 0, .string (s.extract k (k + 1))])) := hown3
                      have HB3 : Hid (Below w.heap.size w w3) := (HB.out.alloc hszr _).grown hgrow (by simp; omega) (fun k hk => (HO.out.lt k hk).1)
                      clear hown3 hgrow HO HB
                      go_wp2
                      go_roundw
                      case rel =>
                        refine ⟨k + 1, done ++ [⟨3, 0, (s.data.toList.drop k).take 1⟩], by omega, by go_num, ?_, HB3.out, HT2⟩
                        rw [tcells_app, List.length_append]
                        have ex : k + 1 - k = 1 := by omega
                        rw [extract_bytes, ex] at HO3
                        exact HO3.out
                      case measure => simp [intOf]; omega
                · have hcd : (c = 60 ∧ d = 60) ∨ (c = 62 ∧ d = 62) := by simpa using h2
                  have HSN : Hid (signN (c :: d :: s.data.toList.drop (k + 2)) = 2) := by
                    unfold Hid signN
                    rw [hasPrefix_pair, hasPrefix_pair, if_pos]
                    rcases hcd with ⟨rfl, rfl⟩ | ⟨rfl, rfl⟩ <;> simp
                  have HT2 : Hid (TkAt s.data.toList (k + 2) (done ++ [⟨3, 0, (s.data.toList.drop k).take 2⟩])) := HT.out.sign HDD.out hb hl hg h59' HSN.out (by decide)
                  clear HSN h2
                  rcases hcd with ⟨rfl, rfl⟩ | ⟨rfl, rfl⟩
                  · have x1 : ((s.extract k (k + 2)).toList == [60, 60]) = true := by rw [hxl]; rfl
                    clear hxl
                    go_wp2_with (first
                      | (at_builtin; refine wpList_append_own _ rfl _ _ 61 rfl w.heap.size 89 i0 _ 3 32 Tryz.underlying61 hi hz0 hz1 hz2 rfl (by decide) _ _ _ rfl (HO.out.alloc _) ⟨wr.heap.size, 0, none⟩ 1 1 [.int .i64 3, .int .i64 0, .string (s.extract k (k + 2))] rfl rfl (new3 _ _ _ _) (one3 _ _ _) (few_max h80) (few_bytes h80) (le_alloc hszr _) ?_)
                      | (go_at_call 29; refine (kind_at _ _).mono ?_; rintro e w' ⟨rfl, rfl⟩)
                      | go_in)
                    · intro v' w3 hown3 hgrow _
                      have HO3 : Hid (w3.ownsRow w.heap.size 89 3 v' (done.length + 1) (tcells done ++ [.int .i64 3, .int .i64 0, .string (s.extract k (k + 2))])) := hown3
                      have HB3 : Hid (Below w.heap.size w w3) := (HB.out.alloc hszr _).grown hgrow (by simp; omega) (fun k hk => (HO.out.lt k hk).1)
                      clear hown3 hgrow HO HB
                      go_wp2
                      go_roundw
                      case rel =>
                        refine ⟨k + 2, done ++ [⟨3, 0, (s.data.toList.drop k).take 2⟩], by omega, by go_num, ?_, HB3.out, HT2⟩
                        rw [tcells_app, List.length_append]
                        have ex : k + 2 - k = 2 := by omega
                        rw [extract_bytes, ex] at HO3
                        exact HO3.out
                      case measure => simp [intOf]; omega
                  · have x1 : ((s.extract k (k + 2)).toList == [60, 60]) = false := by rw [hxl]; rfl
                    have x2 : ((s.extract k (k + 2)).toList == [62, 62]) = true := by rw [hxl]; rfl
                    clear hxl
                    go_wp2_with (first
                      | (at_builtin; refine wpList_append_own _ rfl _ _ 61 rfl w.heap.size 89 i0 _ 3 32 Tryz.underlying61 hi hz0 hz1 hz2 rfl (by decide) _ _ _ rfl (HO.out.alloc _) ⟨wr.heap.size, 0, none⟩ 1 1 [.int .i64 3, .int .i64 0, .string (s.extract k (k + 2))] rfl rfl (new3 _ _ _ _) (one3 _ _ _) (few_max h80) (few_bytes h80) (le_alloc hszr _) ?_)
                      | (go_at_call 29; refine (kind_at _ _).mono ?_; rintro e w' ⟨rfl, rfl⟩)
                      | go_in)
                    · intro v' w3 hown3 hgrow _
                      have HO3 : Hid (w3.ownsRow w.heap.size 89 3 v' (done.length + 1) (tcells done ++ [.int .i64 3, .int .i64 0, .string (s.extract k (k + 2))])) := hown3
                      have HB3 : Hid (Below w.heap.size w w3) := (HB.out.alloc hszr _).grown hgrow (by simp; omega) (fun k hk => (HO.out.lt k hk).1)
                      clear hown3 hgrow HO HB
                      go_wp2
                      go_roundw
                      case rel =>
                        refine ⟨k + 2, done ++ [⟨3, 0, (s.data.toList.drop k).take 2⟩], by omega, by go_num, ?_, HB3.out, HT2⟩
                        rw [tcells_app, List.length_append]
                        have ex : k + 2 - k = 2 := by omega
                        rw [extract_bytes, ex] at HO3
                        exact HO3.out
                      case measure => simp [intOf]; omega
              · have HDD : Hid (s.data.toList.drop k = [c]) := by
                  unfold Hid
                  rw [HDR.out, List.drop_eq_nil_of_le (by rw [HLN.out]; omega)]
                have HSN : Hid (signN [c] = if signB c.toNat = true then 1 else 0) := by
                  unfold Hid signN
                  rw [hasPrefix_pair, hasPrefix_pair, if_neg]
                  · rfl
                  · simp
                cases hs : signB c.toNat
                · rw [hs] at HSN
                  have HF : Hid (lineErr s.data.toList = 2 ∧ lineList s.data.toList = []) := line_bad (by rw [HLN.out]; exact h) (HT.out.nosign HDD.out hb hl hg h59' HSN.out)
                  clear HSN
                  go_wp2_with (first | (go_at_call 29; refine (kind_at _ _).mono ?_; rintro e w' ⟨rfl, rfl⟩; simp only [hkd]) | (go_at_call 31; refine (signs_at _ _).mono ?_; rintro e w' ⟨rfl, rfl⟩; simp only [hs]))
                  go_ret2
                  refine ⟨⟨.slice none 0 0, by rw [HF.out.1]; rfl, ?_⟩, HB.out⟩
                  rw [HF.out.2]
                  exact World.ownsRow_nil _ _ _ _
                · rw [hs] at HSN
                  have HT2 : Hid (TkAt s.data.toList (k + 1) (done ++ [⟨3, 0, (s.data.toList.drop k).take 1⟩])) := HT.out.sign HDD.out hb hl hg h59' HSN.out (by decide)
                  clear HSN
                  go_wp2_with (first
                    | (at_builtin; refine wpList_append_own _ rfl _ _ 61 rfl w.heap.size 89 i0 _ 3 32 Tryz.underlying61 hi hz0 hz1 hz2 rfl (by decide) _ _ _ rfl (HO.out.alloc _) ⟨wr.heap.size, 0, none⟩ 1 1 [.int .i64 3, .int .i64 0, .string (s.extract k (k + 1))] rfl rfl (new3 _ _ _ _) (one3 _ _ _) (few_max h80) (few_bytes h80) (le_alloc hszr _) ?_)
                    | (go_at_call 29; refine (kind_at _ _).mono ?_; rintro e w' ⟨rfl, rfl⟩; simp only [hkd])
                    | (go_at_call 31; refine (signs_at _ _).mono ?_; rintro e w' ⟨rfl, rfl⟩; simp only [hs])
                    | go_in)
                  · intro v' w3 hown3 hgrow _
                    have HO3 : Hid (w3.ownsRow w.heap.size 89 3 v' (done.length + 1) (tcells done ++ [.int .i64 3, .int .i64 0, .string (s.extract k (k + 1))])) := hown3
                    have HB3 : Hid (Below w.heap.size w w3) := (HB.out.alloc hszr _).grown hgrow (by simp; omega) (fun k hk => (HO.out.lt k hk).1)
                    clear hown3 hgrow HO HB
                    go_wp2
                    go_roundw
                    case rel =>
                      refine ⟨k + 1, done ++ [⟨3, 0, (s.data.toList.drop k).take 1⟩], by omega, by go_num, ?_, HB3.out, HT2⟩
                      rw [tcells_app, List.length_append]
                      have ex : k + 1 - k = 1 := by omega
                      rw [extract_bytes, ex] at HO3
                      exact HO3.out
                    case measure => simp [intOf]; omega
          · have hkd := kind_blank hl hg hb
            have HT2 : Hid (TkAt s.data.toList (k + 1) done) := HT.out.blank HDR.out hb
            go_wp2_with (go_at_call 29; refine (kind_at _ _).mono ?_; rintro e w' ⟨rfl, rfl⟩; simp only [hkd])
            exact ⟨⟨k + 1, done, by omega, by go_num, HO.out, HB.out, HT2.out⟩, by simp [intOf]; omega⟩
        · have hkd := kind_num hl hg
          go_wp2_with (go_at_call 29; refine (kind_at _ _).mono ?_; rintro e w' ⟨rfl, rfl⟩; simp only [hkd])
          clear hidx hkd
          go_loop [6] (fun i => ∃ j : Nat, k ≤ j ∧ j ≤ s.size ∧ i = .int .i64 j ∧ Hid (SpanAt numB s.data.toList k j)) (fun i => s.size - (intOf i).toNat)
          case atStart => exact ⟨k, Nat.le_refl _, by omega, rfl, spanAt_start _ _ _⟩
          case round =>
            obtain ⟨j, hkj, hj, rfl, HS⟩ := hrel
            by_cases hjl : j < s.size
            · have hj1 : (j : Int) < s.size := by omega
              have hidx2 := index9 s j j rfl hjl
              have HD2 : Hid (s.data.toList.drop j = s[j] :: s.data.toList.drop (j + 1)) := drop_at hjl
              generalize s[j] = d at *
              have k97 := kind97 d.toNat
              cases hl2 : letterB d.toNat
              · have k48 := kind48 hl2
                rw [hl2] at k97
                cases hg2 : digitB d.toNat
                · rw [hg2] at k48
                  have HSPAN : Hid (spanL numB (s.data.toList.drop k) = j - k) := (spanAt_no HS.out HD2.out (by simp [numB, hl2, hg2]))
                  have hkj'' : k < j := by
                    have h1 := HSPAN.out
                    rw [HDR.out] at h1
                    have hp : pb numB c = true := by simp [pb, numB, hg]
                    simp only [spanL, List.takeWhile_cons, hp, if_true, List.length_cons] at h1
                    omega
                  have hx0 : 0 < (s.extract k j).size := by simp; omega
                  have hx1 : (s.extract k j).size ≤ 9223372036854775000 := by simp; omega
                  have HXL := Hid.out (extract_list s k j)
                  clear HD2
                  go_wp2_with (go_at_call 29; refine (kind_at _ _).mono ?_; rintro e w' ⟨rfl, rfl⟩)
                  refine (rnum_any _ hx1 hx0 _).mono ?_
                  rintro e w2 ⟨⟨x, rfl, hx⟩, m, rfl⟩
                  rw [HXL] at hx ⊢
                  have hBd := Go.Joins.below_draws wr.heap.size wr m
                  have HO2 : Hid ((wr.drewN m).ownsRow w.heap.size 89 3 u4 done.length (tcells done)) := owns_belowT HO.out hBd
                  have HB2 : Hid (Below w.heap.size w (wr.drewN m)) := HB.out.trans (hBd.mono hszr)
                  clear hx0 hx1 hBd HO HB
                  cases hn : numL ((s.data.toList.drop k).take (j - k)) with
                  | none =>
                    have HF : Hid (lineErr s.data.toList = 2 ∧ lineList s.data.toList = []) := line_bad (by rw [HLN.out]; exact h) (HT.out.nonum HDR.out hl hg HSPAN.out hn)
                    clear hn hx
                    simp only [Option.isSome_none]
                    go_wp2
                    go_ret2
                    refine ⟨⟨.slice none 0 0, by rw [HF.out.1]; rfl, ?_⟩, HB2.out⟩
                    rw [HF.out.2]
                    exact World.ownsRow_nil _ _ _ _
                  | some n =>
                    obtain rfl := hx n hn
                    clear hx
                    simp only [Option.isSome_some]
                    have HSP : Hid (k < j ∧ TkAt s.data.toList j (done ++ [⟨2, n, []⟩])) := HT.out.num HDR.out hl hg hkj HSPAN.out hn
                    have hkj' := HSP.out.1
                    have HT2 : Hid (TkAt s.data.toList j (done ++ [⟨2, n, []⟩])) := HSP.out.2
                    clear hn HSP
                    go_wp2_with (first
                      | (at_builtin; refine wpList_append_own _ rfl _ _ 61 rfl w.heap.size 89 i0 _ 3 32 Tryz.underlying61 hi hz0 hz1 hz2 rfl (by decide) _ _ _ rfl (HO2.out.alloc _) ⟨(wr.drewN m).heap.size, 0, none⟩ 1 1 [.int .i64 2, .int .i64 n, .string ⟨#[]⟩] rfl rfl (new3 _ _ _ _) (one3 _ _ _) (few_max h80) (few_bytes h80) (le_alloc hszr _) ?_)
                      | (go_at_call 29; refine (kind_at _ _).mono ?_; rintro e w' ⟨rfl, rfl⟩)
                      | go_in)
                    · intro v' w3 hown3 hgrow _
                      have HO3 : Hid (w3.ownsRow w.heap.size 89 3 v' (done.length + 1) (tcells done ++ [.int .i64 2, .int .i64 n, .string ⟨#[]⟩])) := hown3
                      have HB3 : Hid (Below w.heap.size w w3) := (HB2.out.alloc hszr _).grown hgrow (by simp; omega) (fun k hk => (HO2.out.lt k hk).1)
                      clear hown3 hgrow HO2 HB2
                      go_wp2
                      go_roundw
                      case rel =>
                        refine ⟨j, done ++ [⟨2, n, []⟩], by omega, by go_num, ?_, HB3.out, HT2⟩
                        rw [tcells_app, List.length_append]
                        exact HO3.out
                      case measure => simp [intOf]; omega
                · rw [hg2] at k48
                  go_wp2_with (go_at_call 29; refine (kind_at _ _).mono ?_; rintro e w' ⟨rfl, rfl⟩)
                  exact ⟨⟨j + 1, by omega, by omega, by go_num, spanAt_yes HS.out hkj HD2.out (by simp [numB, hg2])⟩, by simp [intOf]; omega⟩
              · rw [hl2] at k97
                by_cases h46 : (d.toNat : Int) = 46
                · have e46 : ((d.toNat : Int) == 46) = true := by simpa using h46
                  have hg2 : digitB d.toNat = false := by rw [h46]; decide
                  have hkd : kindR d.toNat = 97 := kind_word hl2
                  have k48 : (kindR d.toNat == 48) = false := by rw [hkd]; rfl
                  clear hkd
                  have HSPAN : Hid (spanL numB (s.data.toList.drop k) = j - k) := (spanAt_no HS.out HD2.out (by rw [h46]; decide))
                  have hkj'' : k < j := by
                    have h1 := HSPAN.out
                    rw [HDR.out] at h1
                    have hp : pb numB c = true := by simp [pb, numB, hg]
                    simp only [spanL, List.takeWhile_cons, hp, if_true, List.length_cons] at h1
                    omega
                  have hx0 : 0 < (s.extract k j).size := by simp; omega
                  have hx1 : (s.extract k j).size ≤ 9223372036854775000 := by simp; omega
                  have HXL := Hid.out (extract_list s k j)
                  clear HD2
                  go_wp2_with (go_at_call 29; refine (kind_at _ _).mono ?_; rintro e w' ⟨rfl, rfl⟩)
                  refine (rnum_any _ hx1 hx0 _).mono ?_
                  rintro e w2 ⟨⟨x, rfl, hx⟩, m, rfl⟩
                  rw [HXL] at hx ⊢
                  have hBd := Go.Joins.below_draws wr.heap.size wr m
                  have HO2 : Hid ((wr.drewN m).ownsRow w.heap.size 89 3 u4 done.length (tcells done)) := owns_belowT HO.out hBd
                  have HB2 : Hid (Below w.heap.size w (wr.drewN m)) := HB.out.trans (hBd.mono hszr)
                  clear hx0 hx1 hBd HO HB
                  cases hn : numL ((s.data.toList.drop k).take (j - k)) with
                  | none =>
                    have HF : Hid (lineErr s.data.toList = 2 ∧ lineList s.data.toList = []) := line_bad (by rw [HLN.out]; exact h) (HT.out.nonum HDR.out hl hg HSPAN.out hn)
                    clear hn hx
                    simp only [Option.isSome_none]
                    go_wp2
                    go_ret2
                    refine ⟨⟨.slice none 0 0, by rw [HF.out.1]; rfl, ?_⟩, HB2.out⟩
                    rw [HF.out.2]
                    exact World.ownsRow_nil _ _ _ _
                  | some n =>
                    obtain rfl := hx n hn
                    clear hx
                    simp only [Option.isSome_some]
                    have HSP : Hid (k < j ∧ TkAt s.data.toList j (done ++ [⟨2, n, []⟩])) := HT.out.num HDR.out hl hg hkj HSPAN.out hn
                    have hkj' := HSP.out.1
                    have HT2 : Hid (TkAt s.data.toList j (done ++ [⟨2, n, []⟩])) := HSP.out.2
                    clear hn HSP
                    go_wp2_with (first
                      | (at_builtin; refine wpList_append_own _ rfl _ _ 61 rfl w.heap.size 89 i0 _ 3 32 Tryz.underlying61 hi hz0 hz1 hz2 rfl (by decide) _ _ _ rfl (HO2.out.alloc _) ⟨(wr.drewN m).heap.size, 0, none⟩ 1 1 [.int .i64 2, .int .i64 n, .string ⟨#[]⟩] rfl rfl (new3 _ _ _ _) (one3 _ _ _) (few_max h80) (few_bytes h80) (le_alloc hszr _) ?_)
                      | (go_at_call 29; refine (kind_at _ _).mono ?_; rintro e w' ⟨rfl, rfl⟩)
                      | go_in)
                    · intro v' w3 hown3 hgrow _
                      have HO3 : Hid (w3.ownsRow w.heap.size 89 3 v' (done.length + 1) (tcells done ++ [.int .i64 2, .int .i64 n, .string ⟨#[]⟩])) := hown3
                      have HB3 : Hid (Below w.heap.size w w3) := (HB2.out.alloc hszr _).grown hgrow (by simp; omega) (fun k hk => (HO2.out.lt k hk).1)
                      clear hown3 hgrow HO2 HB2
                      go_wp2
                      go_roundw
                      case rel =>
                        refine ⟨j, done ++ [⟨2, n, []⟩], by omega, by go_num, ?_, HB3.out, HT2⟩
                        rw [tcells_app, List.length_append]
                        exact HO3.out
                      case measure => simp [intOf]; omega
                · have e46 : ((d.toNat : Int) == 46) = false := beq_no h46
                  go_wp2_with (go_at_call 29; refine (kind_at _ _).mono ?_; rintro e w' ⟨rfl, rfl⟩)
                  exact ⟨⟨j + 1, by omega, by omega, by go_num, spanAt_yes HS.out hkj HD2.out (numB_letter hl2 h46)⟩, by simp [intOf]; omega⟩
            · have hj1 : ¬ (j : Int) < s.size := by omega
              have HSPAN : Hid (spanL numB (s.data.toList.drop k) = j - k) := (spanAt_end HS.out (by rw [HLN.out]; omega))
              have hkj'' : k < j := by
                have h1 := HSPAN.out
                rw [HDR.out] at h1
                have hp : pb numB c = true := by simp [pb, numB, hg]
                simp only [spanL, List.takeWhile_cons, hp, if_true, List.length_cons] at h1
                omega
              have hx0 : 0 < (s.extract k j).size := by simp; omega
              have hx1 : (s.extract k j).size ≤ 9223372036854775000 := by simp; omega
              have HXL := Hid.out (extract_list s k j)
              go_wp2_with (go_at_call 29; refine (kind_at _ _).mono ?_; rintro e w' ⟨rfl, rfl⟩)
              refine (rnum_any _ hx1 hx0 _).mono ?_
              rintro e w2 ⟨⟨x, rfl, hx⟩, m, rfl⟩
              rw [HXL] at hx ⊢
              have hBd := Go.Joins.below_draws wr.heap.size wr m
              have HO2 : Hid ((wr.drewN m).ownsRow w.heap.size 89 3 u4 done.length (tcells done)) := owns_belowT HO.out hBd
              have HB2 : Hid (Below w.heap.size w (wr.drewN m)) := HB.out.trans (hBd.mono hszr)
              clear hx0 hx1 hBd HO HB
              cases hn : numL ((s.data.toList.drop k).take (j - k)) with
              | none =>
                have HF : Hid (lineErr s.data.toList = 2 ∧ lineList s.data.toList = []) := line_bad (by rw [HLN.out]; exact h) (HT.out.nonum HDR.out hl hg HSPAN.out hn)
                clear hn hx
                simp only [Option.isSome_none]
                go_wp2
                go_ret2
                refine ⟨⟨.slice none 0 0, by rw [HF.out.1]; rfl, ?_⟩, HB2.out⟩
                rw [HF.out.2]
                exact World.ownsRow_nil _ _ _ _
              | some n =>
                obtain rfl := hx n hn
                clear hx
                simp only [Option.isSome_some]
                have HSP : Hid (k < j ∧ TkAt s.data.toList j (done ++ [⟨2, n, []⟩])) := HT.out.num HDR.out hl hg hkj HSPAN.out hn
                have hkj' := HSP.out.1
                have HT2 : Hid (TkAt s.data.toList j (done ++ [⟨2, n, []⟩])) := HSP.out.2
                clear hn HSP
                go_wp2_with (first
                  | (at_builtin; refine wpList_append_own _ rfl _ _ 61 rfl w.heap.size 89 i0 _ 3 32 Tryz.underlying61 hi hz0 hz1 hz2 rfl (by decide) _ _ _ rfl (HO2.out.alloc _) ⟨(wr.drewN m).heap.size, 0, none⟩ 1 1 [.int .i64 2, .int .i64 n, .string ⟨#[]⟩] rfl rfl (new3 _ _ _ _) (one3 _ _ _) (few_max h80) (few_bytes h80) (le_alloc hszr _) ?_)
                  | (go_at_call 29; refine (kind_at _ _).mono ?_; rintro e w' ⟨rfl, rfl⟩)
                  | go_in)
                · intro v' w3 hown3 hgrow _
                  have HO3 : Hid (w3.ownsRow w.heap.size 89 3 v' (done.length + 1) (tcells done ++ [.int .i64 2, .int .i64 n, .string ⟨#[]⟩])) := hown3
                  have HB3 : Hid (Below w.heap.size w w3) := (HB2.out.alloc hszr _).grown hgrow (by simp; omega) (fun k hk => (HO2.out.lt k hk).1)
                  clear hown3 hgrow HO2 HB2
                  go_wp2
                  go_roundw
                  case rel =>
                    refine ⟨j, done ++ [⟨2, n, []⟩], by omega, by go_num, ?_, HB3.out, HT2⟩
                    rw [tcells_app, List.length_append]
                    exact HO3.out
                  case measure => simp [intOf]; omega
      · have hkd := kind_word hl
        go_wp2_with (go_at_call 29; refine (kind_at _ _).mono ?_; rintro e w' ⟨rfl, rfl⟩; simp only [hkd])
        clear hidx hkd
        go_loop [6] (fun i => ∃ j : Nat, k ≤ j ∧ j ≤ s.size ∧ i = .int .i64 j ∧ Hid (SpanAt wordB s.data.toList k j)) (fun i => s.size - (intOf i).toNat)
        case atStart => exact ⟨k, Nat.le_refl _, by omega, rfl, spanAt_start _ _ _⟩
        case round =>
          obtain ⟨j, hkj, hj, rfl, HS⟩ := hrel
          by_cases hjl : j < s.size
          · have hj1 : (j : Int) < s.size := by omega
            have hidx2 := index9 s j j rfl hjl
            have HD2 : Hid (s.data.toList.drop j = s[j] :: s.data.toList.drop (j + 1)) := drop_at hjl
            generalize s[j] = d at *
            have k97 := kind97 d.toNat
            cases hl2 : letterB d.toNat
            · have k48 := kind48 hl2
              rw [hl2] at k97
              cases hg2 : digitB d.toNat
              · rw [hg2] at k48
                by_cases h47 : (d.toNat : Int) = 47
                · have e47 : ((d.toNat : Int) == 47) = true := by simpa using h47
                  go_wp2_with (go_at_call 29; refine (kind_at _ _).mono ?_; rintro e w' ⟨rfl, rfl⟩)
                  exact ⟨⟨j + 1, by omega, by omega, by go_num, spanAt_yes HS.out hkj HD2.out (by simp [wordB, h47])⟩, by simp [intOf]; omega⟩
                · have e47 : ((d.toNat : Int) == 47) = false := beq_no h47
                  have HSP : Hid (k < j ∧ TkAt s.data.toList j (done ++ [⟨1, 0, (s.data.toList.drop k).take (j - k)⟩])) := HT.out.word HDR.out hl hkj (spanAt_no HS.out HD2.out (by simp [wordB, hl2, hg2, h47]))
                  have hkj' := HSP.out.1
                  have HT2 : Hid (TkAt s.data.toList j (done ++ [⟨1, 0, (s.data.toList.drop k).take (j - k)⟩])) := HSP.out.2
                  clear HSP
                  go_wp2_with (first
                    | (at_builtin; refine wpList_append_own _ rfl _ _ 61 rfl w.heap.size 89 i0 _ 3 32 Tryz.underlying61 hi hz0 hz1 hz2 rfl (by decide) _ _ _ rfl (HO.out.alloc _) ⟨wr.heap.size, 0, none⟩ 1 1 [.int .i64 1, .int .i64 0, .string (s.extract k j)] rfl rfl (new3 _ _ _ _) (one3 _ _ _) (few_max h80) (few_bytes h80) (le_alloc hszr _) ?_)
                    | (go_at_call 29; refine (kind_at _ _).mono ?_; rintro e w' ⟨rfl, rfl⟩)
                    | go_in)
                  · intro v' w3 hown3 hgrow _
                    have HO3 : Hid (w3.ownsRow w.heap.size 89 3 v' (done.length + 1) (tcells done ++ [.int .i64 1, .int .i64 0, .string (s.extract k j)])) := hown3
                    have HB3 : Hid (Below w.heap.size w w3) := (HB.out.alloc hszr _).grown hgrow (by simp; omega) (fun k hk => (HO.out.lt k hk).1)
                    clear hown3 hgrow HO HB
                    go_wp2
                    go_roundw
                    case rel =>
                      refine ⟨j, done ++ [⟨1, 0, (s.data.toList.drop k).take (j - k)⟩], by omega, by go_num, ?_, HB3.out, HT2⟩
                      rw [tcells_app, List.length_append]
                      rw [extract_bytes] at HO3
                      exact HO3.out
                    case measure => simp [intOf]; omega
              · rw [hg2] at k48
                go_wp2_with (go_at_call 29; refine (kind_at _ _).mono ?_; rintro e w' ⟨rfl, rfl⟩)
                exact ⟨⟨j + 1, by omega, by omega, by go_num, spanAt_yes HS.out hkj HD2.out (by simp [wordB, hg2])⟩, by simp [intOf]; omega⟩
            · rw [hl2] at k97
              go_wp2_with (go_at_call 29; refine (kind_at _ _).mono ?_; rintro e w' ⟨rfl, rfl⟩)
              exact ⟨⟨j + 1, by omega, by omega, by go_num, spanAt_yes HS.out hkj HD2.out (by simp [wordB, hl2])⟩, by simp [intOf]; omega⟩
          · have hj1 : ¬ (j : Int) < s.size := by omega
            have HSP : Hid (k < j ∧ TkAt s.data.toList j (done ++ [⟨1, 0, (s.data.toList.drop k).take (j - k)⟩])) := HT.out.word HDR.out hl hkj (spanAt_end HS.out (by rw [HLN.out]; omega))
            have hkj' := HSP.out.1
            have HT2 : Hid (TkAt s.data.toList j (done ++ [⟨1, 0, (s.data.toList.drop k).take (j - k)⟩])) := HSP.out.2
            clear HSP
            go_wp2_with (first
              | (at_builtin; refine wpList_append_own _ rfl _ _ 61 rfl w.heap.size 89 i0 _ 3 32 Tryz.underlying61 hi hz0 hz1 hz2 rfl (by decide) _ _ _ rfl (HO.out.alloc _) ⟨wr.heap.size, 0, none⟩ 1 1 [.int .i64 1, .int .i64 0, .string (s.extract k j)] rfl rfl (new3 _ _ _ _) (one3 _ _ _) (few_max h80) (few_bytes h80) (le_alloc hszr _) ?_)
              | (go_at_call 29; refine (kind_at _ _).mono ?_; rintro e w' ⟨rfl, rfl⟩)
              | go_in)
            · intro v' w3 hown3 hgrow _
              have HO3 : Hid (w3.ownsRow w.heap.size 89 3 v' (done.length + 1) (tcells done ++ [.int .i64 1, .int .i64 0, .string (s.extract k j)])) := hown3
              have HB3 : Hid (Below w.heap.size w w3) := (HB.out.alloc hszr _).grown hgrow (by simp; omega) (fun k hk => (HO.out.lt k hk).1)
              clear hown3 hgrow HO HB
              go_wp2
              go_roundw
              case rel =>
                refine ⟨j, done ++ [⟨1, 0, (s.data.toList.drop k).take (j - k)⟩], by omega, by go_num, ?_, HB3.out, HT2⟩
                rw [tcells_app, List.length_append]
                rw [extract_bytes] at HO3
                exact HO3.out
              case measure => simp [intOf]; omega
    · have hk1 : ¬ (k : Int) < s.size := by omega
      have HF : Hid (lineErr s.data.toList = 0 ∧ lineList s.data.toList = done) := line_done (by rw [HLN.out]; exact h) (HT.out.fin (by rw [HLN.out]; omega))
      go_wp2
      go_ret2
      refine ⟨⟨u4, by rw [HF.out.1]; rfl, ?_⟩, hB⟩
      rw [HF.out.2]
      exact hown

theorem rtokens_much (s : ByteArray) (w : World) (h : 80 < s.size) :
    Calls Tryz.prog 18 #[.string s] w fun e w' => e = .returned (.tuple #[.slice none 0 0, .int .i64 4]) ∧ w = w' := by
  have h' : (80 : Int) < s.size := by omega
  go_enter Tryz.func18, Tryz.ntmps18
  go_wp2
  go_ret2
  exact ⟨rfl, rfl⟩

theorem rtokens_any (s : ByteArray) (w : World) :
    Calls Tryz.prog 18 #[.string s] w fun e w' => TokAns w.heap.size w' s.data.toList e ∧ Below w.heap.size w w' := by
  by_cases h : s.size ≤ 80
  · exact rtokens_few s w h
  · refine (rtokens_much s w (by omega)).mono ?_
    rintro e w' ⟨rfl, rfl⟩
    have hl : 80 < s.data.toList.length := by have := size_of (rfl : s.data.toList = _); omega
    refine ⟨⟨.slice none 0 0, by rw [(line_much hl).1], ?_⟩, Below.refl _ _⟩
    rw [(line_much hl).2]
    exact World.ownsRow_nil _ _ _ _

end Go.Proofs.YtagkmgdjkailkaaGreatDoor.Sc
