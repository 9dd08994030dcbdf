/- The contracts of the program's operands and Line. -/
import Derived.Test.YtgadpimknobljaaDoorDsB
namespace Go.Proofs.YtgadpimknobljaaDoor
open Go.RowKit Isa

theorem shape_bd (op : Int) : 0 ≤ infoShape op ∧ infoShape op ≤ 11 := by
  unfold infoShape
  split
  · rename_i h
    simp [knownB, withinB] at h
    obtain ⟨k, rfl⟩ : ∃ k : Nat, op = k := ⟨op.toNat, by omega⟩
    have h' : ∀ j : Fin 28, 0 ≤ opShape (j.val : Int) ∧ opShape (j.val : Int) ≤ 11 := by decide
    exact h' ⟨k, by omega⟩
  · omega
theorem name_few (op : Int) : (infoName op).data.toList.length ≤ 20 := by
  unfold infoName
  split
  · rename_i h
    simp [knownB, withinB] at h
    obtain ⟨k, rfl⟩ : ∃ k : Nat, op = k := ⟨op.toNat, by omega⟩
    have h' : ∀ j : Fin 28, (opName (j.val : Int)).data.toList.length ≤ 20 := by decide
    exact h' ⟨k, by omega⟩
  · simp
theorem back_bytes (b : ByteArray) : (⟨b.data.toList.toArray⟩ : ByteArray) = b := by
  apply ByteArray.ext
  simp

theorem regL_few (n : Int) (h0 : -10000 ≤ n) (h1 : n ≤ 10000) : (regL n).length ≤ 22 := by
  have := itoa_few n (by omega) (by omega)
  simp [regL]; omega
theorem numL_few (n : Int) (h0 : -10000 ≤ n) (h1 : n ≤ 10000) : (numL n).length ≤ 22 := by
  have := itoa_few n (by omega) (by omega)
  simp [numL]; omega
theorem placeL_few (n : Int) : (placeL n).length ≤ 18 := by
  have := hexS_len n
  simp [placeL]; omega
theorem operL_few (s n m imm p : Int) (hn0 : 0 ≤ n) (hn1 : n ≤ 15) (hm0 : 0 ≤ m) (hm1 : m ≤ 15) (h2 : -10000 ≤ imm) (h3 : imm ≤ 10000) : (operL s n m imm p).length ≤ 50 := by
  have e1 := regL_few n (by omega) (by omega)
  have e2 := regL_few m (by omega) (by omega)
  have e3 := numL_few imm h2 h3
  have e4 := placeL_few p
  unfold operL
  repeat' split
  all_goals ((try simp only [List.length_append, List.length_cons, List.length_nil]); omega)

theorem oper_any (op n m imm at' : Int) (w : World) (hD : DL w) (h0 : 0 ≤ at') (h1 : at' ≤ 1000000000000) (hn0 : 0 ≤ n) (hn1 : n ≤ 15) (hm0 : 0 ≤ m) (hm1 : m ≤ 15) (h2 : -10000 ≤ imm) (h3 : imm ≤ 10000) (hs : infoShape op ≠ 0) :
    Calls Tryd.prog 25 #[.agg #[.int .i64 op, .int .i64 n, .int .i64 m, .int .i64 imm], .int .i64 (infoShape op), .int .i64 at'] w fun e w' => e = .returned (.string ⟨(operL (infoShape op) n m imm (toI op imm at')).toArray⟩) ∧ Below w.heap.size w w' := by
  have HN : Hid (Says w 35 #[.int .i64 n] (regL n)) := fun W hb => register_any n (by omega) (by omega) W (hD.next hb)
  have HM : Hid (Says w 35 #[.int .i64 m] (regL m)) := fun W hb => register_any m (by omega) (by omega) W (hD.next hb)
  have HI : Hid (Says w 34 #[.int .i64 imm] (numL imm)) := fun W hb => number_any' imm (by omega) (by omega) W (hD.next hb)
  have HP : Hid (Says w 36 #[.agg #[.int .i64 op, .int .i64 n, .int .i64 m, .int .i64 imm], .int .i64 at'] (placeL (toI op imm at'))) := fun W hb => goal_any op n m imm at' W (hD.next hb) h0 h1 h2 h3
  have e1 := regL_few n (by omega) (by omega)
  have e2 := regL_few m (by omega) (by omega)
  have e3 := numL_few imm h2 h3
  have e4 := placeL_few (toI op imm at')
  have hb := shape_bd op
  generalize infoShape op = s at *
  generalize toI op imm at' = p at *
  obtain rfl | rfl | rfl | rfl | rfl | rfl | rfl | rfl | rfl | rfl | rfl : s = 1 ∨ s = 2 ∨ s = 3 ∨ s = 4 ∨ s = 5 ∨ s = 6 ∨ s = 7 ∨ s = 8 ∨ s = 9 ∨ s = 10 ∨ s = 11 := by omega
  · exact oper1 op n m imm at' w _ _ (by omega) (by omega) HI HN
  · exact oper2 op n m imm at' w _ _ (by omega) (by omega) HM HN
  · exact oper3 op n m imm at' w _ HN
  · exact oper4 op n m imm at' w _ HP
  · exact oper5 op n m imm at' w _ HP
  · exact oper6 op n m imm at' w _ (by omega) HN
  · exact oper7 op n m imm at' w _ _ (by omega) (by omega) HP HN
  · exact oper8 op n m imm at' w _ _ (by omega) (by omega) HP HN
  · exact oper9 op n m imm at' w _ _ (by omega) (by omega) HM HN
  · exact oper10 op n m imm at' w _ _ (by omega) (by omega) HM HN
  · exact oper11 op n m imm at' w _ HI

set_option maxHeartbeats 4000000 in
theorem line_any (op n m imm at' : Int) (w : World) (hD : DL w) (h0 : 0 ≤ at') (h1 : at' ≤ 1000000000000) (hn0 : 0 ≤ n) (hn1 : n ≤ 15) (hm0 : 0 ≤ m) (hm1 : m ≤ 15) (h2 : -10000 ≤ imm) (h3 : imm ≤ 10000) :
    Calls Tryd.prog 9 #[.agg #[.int .i64 op, .int .i64 n, .int .i64 m, .int .i64 imm], .int .i64 at'] w fun e w' => e = .returned (.string ⟨(lineL op n m imm at').toArray⟩) ∧ Below w.heap.size w w' := by
  obtain ⟨nl, hnl⟩ : ∃ x, x = (infoName op).data.toList := ⟨_, rfl⟩
  have hnl' : infoName op = ⟨nl.toArray⟩ := by rw [hnl]
  have hnf : nl.length ≤ 20 := by rw [hnl]; exact name_few op
  have HB0 := Lib.hid (oalloc w (.cells #[.int .i64 op, .int .i64 n, .int .i64 m, .int .i64 imm] 24))
  have HI := Lib.hid (info_any op (w.alloc (.cells #[.int .i64 op, .int .i64 n, .int .i64 m, .int .i64 imm] 24)) (hD.next HB0.out).laid)
  rw [hnl'] at HI
  have HO : Hid (infoShape op ≠ 0 → ∀ W, Below w.heap.size w W → Calls Tryd.prog 25 #[.agg #[.int .i64 op, .int .i64 n, .int .i64 m, .int .i64 imm], .int .i64 (infoShape op), .int .i64 at'] W fun e w' => e = .returned (.string ⟨(operL (infoShape op) n m imm (toI op imm at')).toArray⟩) ∧ Below W.heap.size W w') := fun hs W hb =>
    oper_any op n m imm at' W (hD.next hb) h0 h1 hn0 hn1 hm0 hm1 h2 h3 hs
  have hof := operL_few (infoShape op) n m imm (toI op imm at') hn0 hn1 hm0 hm1 h2 h3
  unfold lineL
  rw [← hnl]
  clear hnl hnl' hD
  generalize toI op imm at' = p at *
  generalize infoShape op = s at *
  generalize operL s n m imm p = ol at *
  by_cases hs : s = 0
  · subst hs
    rw [if_pos rfl]
    clear HO
    go_enter Tryd.func9, Tryd.ntmps9
    go_wp2_with (first | (go_at_call 24; refine HI.out.mono ?_; rintro e W1 ⟨rfl, hb1⟩; have HB1 := Lib.hid (HB0.out.trans (hb1.mono (by simp))); clear hb1) | fail)
    go_ret
    exact ⟨rfl, HB1.out⟩
  · rw [if_neg hs]
    have HO := Lib.hid (HO.out hs)
    have hs' : (s == 0) = false := by simp [hs]
    obtain ⟨l3, hl3⟩ : ∃ x, x = nl ++ [32] := ⟨_, rfl⟩
    have hl3' : l3.length ≤ 103 := by rw [hl3]; simp; omega
    have hc1 : (⟨nl.toArray⟩ : ByteArray) ++ ⟨#[32]⟩ = ⟨l3.toArray⟩ := by rw [hl3]; exact bcat nl [32]
    have hs1 := few_cat1 (a := nl) (by omega)
    rw [← hl3]
    clear hl3
    obtain ⟨l4, hl4⟩ : ∃ x, x = l3 ++ ol := ⟨_, rfl⟩
    have hc2 : (⟨l3.toArray⟩ : ByteArray) ++ ⟨ol.toArray⟩ = ⟨l4.toArray⟩ := by rw [hl4]; exact bcat l3 ol
    have hs2 := few_cat (a := l3) (b := ol) (by omega) (by omega)
    rw [← hl4]
    clear hl4
    go_enter Tryd.func9, Tryd.ntmps9
    go_wp2_with (first | (go_at_call 24; refine HI.out.mono ?_; rintro e W1 ⟨rfl, hb1⟩; have c0 : W1.cell? ⟨w.heap.size, 0, none⟩ = some (.int .i64 op) := (hb1.cell (p := ⟨w.heap.size, 0, none⟩) (by simp)).trans (by simp); have c1 : W1.cell? ⟨w.heap.size, 1, none⟩ = some (.int .i64 n) := (hb1.cell (p := ⟨w.heap.size, 1, none⟩) (by simp)).trans (by simp); have c2 : W1.cell? ⟨w.heap.size, 2, none⟩ = some (.int .i64 m) := (hb1.cell (p := ⟨w.heap.size, 2, none⟩) (by simp)).trans (by simp); have c3 : W1.cell? ⟨w.heap.size, 3, none⟩ = some (.int .i64 imm) := (hb1.cell (p := ⟨w.heap.size, 3, none⟩) (by simp)).trans (by simp); have HB1 := Lib.hid (HB0.out.trans (hb1.mono (by simp))); clear hb1) | (go_at_call 25; refine (HO.out _ HB1.out).mono ?_; rintro e W2 ⟨rfl, hb2⟩; have HB2 := Lib.hid (HB1.out.trans (hb2.mono HB1.out.size)); clear hb2) | fail)
    go_ret
    exact ⟨rfl, HB2.out⟩

end Go.Proofs.YtgadpimknobljaaDoor
