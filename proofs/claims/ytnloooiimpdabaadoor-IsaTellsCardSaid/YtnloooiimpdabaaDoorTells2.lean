/- The walk of pllaw1.IsaTells, on. -/
import Derived.Test.YtnloooiimpdabaaDoorReg
namespace Go.Proofs.YtnloooiimpdabaaDoor
open Go.RowKit

theorem rowIn_next {w x y : World} {op n m imm : Int} {g : Nat} (h : RowIn w op n m imm g x) (hb : Below x.heap.size x y) : RowIn w op n m imm g y := by
  obtain ⟨h0, h1, h2, h3, h4, h5⟩ := h
  exact ⟨keepBox hb h0, Nat.lt_of_lt_of_le h1 hb.size, h2, by rw [hb.cell h1]; exact h3, by rw [hb.cell h1]; exact h4, by rw [hb.cell h1]; exact h5⟩

theorem rowIn_laid {w x : World} {op n m imm : Int} {g : Nat} (h : RowIn w op n m imm g x) (hL : Laid w) : Laid x := hL.below h.1.2.2.2.2.2 hL.sz

theorem laidBox {w x : World} {a b c d : Value} (hL : Laid w) (h : w.heap.size < x.heap.size ∧ x.cell? ⟨w.heap.size, 0, none⟩ = some a ∧ x.cell? ⟨w.heap.size, 1, none⟩ = some b ∧ x.cell? ⟨w.heap.size, 2, none⟩ = some c ∧ x.cell? ⟨w.heap.size, 3, none⟩ = some d ∧ Below w.heap.size w x) : Laid x :=
  hL.below h.2.2.2.2.2 hL.sz

theorem lastTo_yes {name : ByteArray} {shape : Int} {j : Nat} (h1 : knownB j = true) (h2 : (opName j).toList = name.toList) (h3 : (opShape j == shape) = true) : lastTo name shape (j + 1) = j := by
  unfold lastTo
  rw [if_pos ⟨h1, h2, by simpa using h3⟩]
theorem lastTo_no {name : ByteArray} {shape : Int} {j : Nat} (h : ¬ (knownB j = true ∧ (opName j).toList = name.toList ∧ opShape j = shape)) : lastTo name shape (j + 1) = lastTo name shape j := by
  rw [lastTo, if_neg h]

set_option maxRecDepth 100000 in
set_option maxHeartbeats 8000000 in
theorem tells_any (op n m imm x : Int) (name : ByteArray) (shape : Int) (ad : Option Addr) (len cap : Nat) (bs : Nat → Int) (a z : Int) (w : World) (hL : Laid w) (hlen : len ≤ 140737488351232) (hbs : IsByte bs)
    (hrow : 0 < len → ∃ b off, ad = some ⟨b, off, none⟩ ∧ ∀ i, i < len → w.cell? ⟨b, off + i, none⟩ = some (.int .u8 (bs i))) :
    Calls Tryd.prog 3 #[.agg #[.int .i64 op, .int .i64 n, .int .i64 m, .int .i64 imm], .int .i64 x, .string name, .int .i64 shape, .slice ad len cap, .int .i64 a, .int .i64 z] w fun e w' => e = .returned (.bool true) ∧ Below w.heap.size w w' := by
  have HROW : Hid (0 < len → ∃ b off, ad = some ⟨b, off, none⟩ ∧ ∀ i, i < len → w.cell? ⟨b, off + i, none⟩ = some (.int .u8 (bs i))) := hrow
  clear hrow
  go_enter Tryd.func3, Tryd.ntmps3
  go_wp2_with fail
  go_cut [15, 16] (fun s15 s16 wc => ∃ g, s15 = .pointer (some ⟨g, 0, none⟩) ∧ s16 = .bool (knownB op) ∧ RowIn w op n m imm g wc)
  case first =>
    go_region_held3 (fun w' => w.heap.size < w'.heap.size ∧ w'.cell? ⟨w.heap.size, 0, none⟩ = some (.int .i64 op) ∧ w'.cell? ⟨w.heap.size, 1, none⟩ = some (.int .i64 n) ∧ w'.cell? ⟨w.heap.size, 2, none⟩ = some (.int .i64 m) ∧ w'.cell? ⟨w.heap.size, 3, none⟩ = some (.int .i64 imm) ∧ Below w.heap.size w w')
      (first | exact startBox w _ _ _ _ | assumption | exact keepBox hb1 (by assumption) | exact keepBox ((Below.refl _ _).alloc (Nat.le_refl _) _) (by assumption) | exact keepBox ((Below.refl _ _).alloc (Nat.le_refl _) _) (keepBox hb1 (startBox w _ _ _ _)) | exact keepSet (by omega) (keepSet (by omega) (keepSet (by omega) (by assumption))))
      ((go_at_call 6; refine (rows_let _).mono ?_; rintro e w1 ⟨g, rfl, hg1, hb1, hg2, hg3⟩; have hl1 := fun k => run_look_ok w1 g k hg1; have hl2 := fun O k => run_look_ok (w1.alloc O) g k (look_alloc hg1 hg2 O); obtain ⟨hc1, hf1⟩ := bcell hb1))
    all_goals
      have hz1 := hb1.size
      simp at hz1
      go_wp2_with fail
      go_meet
    · exact ⟨_, rfl, rfl, rowIn_new (by omega) (by assumption)⟩
    · exact ⟨_, rfl, rfl, rowIn_new (by omega) (by assumption)⟩
    · rename_i hH
      obtain ⟨q0, q1, q2⟩ := set3 (x := w1) (g := w.heap.size + 1) (a := .string (infoName op)) (b := .int .i64 (infoShape op)) (c := .string (refTxt op)) (u0 := .string ⟨#[]⟩) (u1 := .int .i64 0) (u2 := .string ⟨#[]⟩) (by rw [hc1 _ _ (by simp)]; simp) (by rw [hc1 _ _ (by simp)]; simp) (by rw [hc1 _ _ (by simp)]; simp)
      exact ⟨_, rfl, rfl, hH, by simp; omega, by omega, q0, q1, q2⟩
  case rest =>
    obtain ⟨g, rfl, rfl, R1⟩ := hcut
    have b0 := R1.1.2.1
    go_wp2_with fail
    refine (info_any op _ (rowIn_laid R1 hL)).mono ?_
    rintro e w2 ⟨rfl, hb2⟩
    have R2 := rowIn_next R1 hb2
    clear R1 hb2 b0
    go_upto_region 3 with fail
    go_cut [16, 17, 18, 72] (fun _ _ _ s72 wc => s72 = .bool false ∧ RowIn w op n m imm g wc)
    case first =>
      have g0 := R2.2.2.2.1
      have g1 := R2.2.2.2.2.1
      cases hk : knownB op
      · have e1 : infoName op = ⟨#[]⟩ := by simp [infoName, hk]
        have e2 : infoShape op = 0 := by simp [infoShape, hk]
        rw [e1, e2]
        clear e1 e2 g0 g1
        go_wp2_with fail
        go_meet
        exact ⟨rfl, R2⟩
      · go_wp2_with fail
        go_meet
        exact ⟨rfl, R2⟩
    case rest =>
      obtain ⟨rfl, R3⟩ := hcut
      clear R2
      go_wp2_with fail
      go_loopw [19, 73] (fun s19 s73 wr => ∃ j : Nat, j ≤ 28 ∧ s73 = .int .i64 j ∧ s19 = .int .i64 (lastTo name shape j) ∧ RowIn w op n m imm g wr) (fun _ i _ => 28 - (intOf i).toNat)
      case atStart => exact ⟨0, Nat.zero_le _, rfl, rfl, R3⟩
      case round =>
        obtain ⟨j, hj, rfl, rfl, RR⟩ := hrel
        by_cases hlt : j < 28
        · have hj' : (j : Int) < 28 := by omega
          go_wp2_with fail
          refine (rows_let _).mono ?_
          rintro e w4 ⟨g4, rfl, hg1, hb1, hg2, hg3⟩
          have hl1 := run_look_ok w4 g4 (j : Int) hg1
          have R4 := rowIn_next RR hb1
          have R5 := rowIn_next R4 ((Below.refl w4.heap.size w4).alloc (Nat.le_refl _) (.cells #[.string (infoName j), .int .i64 (infoShape j), .string (refTxt j)] 26))
          clear hg1 hb1 hg2 hg3 RR R4
          cases hk : knownB (j : Int)
          · have HN : Hid (lastTo name shape (j + 1) = lastTo name shape j) := lastTo_no (by simp [hk])
            go_wp2
            exact ⟨⟨j + 1, by omega, by go_num, by rw [HN.out], R5⟩, by simp [intOf]; omega⟩
          · have e1 : infoName (j : Int) = opName j := by simp [infoName, hk]
            have e2 : infoShape (j : Int) = opShape j := by simp [infoShape, hk]
            rw [e1, e2] at hl1 R5
            clear e1 e2
            have HK : Hid (knownB (j : Int) = true) := hk
            go_wp2
            · have t1 : (opName (j : Int)).toList = name.toList := by assumption
              have t2 : (opShape (j : Int) == shape) = true := by assumption
              exact ⟨⟨j + 1, by omega, by go_num, by rw [lastTo_yes HK.out t1 t2], R5⟩, by simp [intOf]; omega⟩
            · have t2 : (opShape (j : Int) == shape) = false := by assumption
              exact ⟨⟨j + 1, by omega, by go_num, by rw [lastTo_no (by simp at t2; simp [t2])], R5⟩, by simp [intOf]; omega⟩
            · have t1 : ¬ (opName (j : Int)).toList = name.toList := by assumption
              exact ⟨⟨j + 1, by omega, by go_num, by rw [lastTo_no (by simp [t1])], R5⟩, by simp [intOf]; omega⟩
        · have hj28 : j = 28 := by omega
          subst hj28
          rw [last_find]
          clear R3
          go_wp2_with fail
          refine (range_any shape _ (rowIn_laid RR hL)).mono ?_
          rintro e w5 ⟨rfl, hb5⟩
          have R5 := rowIn_next RR hb5
          clear RR hb5
          go_wp2_with fail
          refine (rRange_any shape _).mono ?_
          rintro e w' ⟨rfl, rfl⟩
          have hS := R5.1
          go_wp2_with fail
          go_region_held3 (fun w' => w.heap.size < w'.heap.size ∧ w'.cell? ⟨w.heap.size, 0, none⟩ = some (.int .i64 op) ∧ w'.cell? ⟨w.heap.size, 1, none⟩ = some (.int .i64 n) ∧ w'.cell? ⟨w.heap.size, 2, none⟩ = some (.int .i64 m) ∧ w'.cell? ⟨w.heap.size, 3, none⟩ = some (.int .i64 imm) ∧ Below w.heap.size w w')
            (first | exact keepDrew hS | assumption | exact keepBox hb9 (by assumption) | exact keepBox hb8 (by assumption) | exact keepBox hb7 (by assumption))
            (first | (go_at_call 10; refine (find_any _ _ _ ?_).mono ?_; (exact laidBox hL (by assumption)); rintro e w7 ⟨rfl, hb7⟩) | (go_at_call 11; refine (wrong_any _ _ _ _ _ ?_).mono ?_; (exact laidBox hL (by assumption)); rintro e w8 ⟨rfl, hb8⟩) | (go_at_call 12; refine (rWrong_any _ _ _ _ _).mono ?_; rintro e w9 ⟨rfl, hb9⟩) | (go_at_call 13; refine (signed_any _ _).mono ?_; rintro e w' ⟨rfl, rfl⟩) | (go_at_call 14; refine (rSigned_any _ _).mono ?_; rintro e w' ⟨rfl, rfl⟩))
          rename_i hH
          have SA := hH
          clear hH hS R5 hb7 hb8 hb9
          have b0 := SA.2.1
          have b1 := SA.2.2.1
          have b2 := SA.2.2.2.1
          have b3 := SA.2.2.2.2.1
          go_wp2_with fail
          refine (encode_any op n m imm _ (laidBox hL SA)).mono ?_
          rintro e wA ⟨rfl, hbA⟩
          have SB := keepBox hbA SA
          clear hbA SA b0 b1 b2 b3
          have b0 := SB.2.1
          have b1 := SB.2.2.1
          have b2 := SB.2.2.2.1
          have b3 := SB.2.2.2.2.1
          go_wp2_with fail
          refine (rEnc_any op n m imm _).mono ?_
          rintro e wB ⟨rfl, hbB⟩
          have SC := keepBox hbB SB
          clear hbB SB b0 b1 b2 b3
          go_wp2_with fail
          refine (decode_any x _ (laidBox hL SC)).mono ?_
          rintro e wC ⟨rfl, hbC⟩
          have SD := keepBox hbC SC
          clear hbC SC
          obtain ⟨v0, v1, v2, v3, hv⟩ := decV_form x
          rw [hv]
          have HV : Hid (decV x = .agg #[.int .i64 v0, .int .i64 v1, .int .i64 v2, .int .i64 v3]) := hv
          clear hv
          go_wp2_with fail
          refine (rDec_any x _).mono ?_
          rintro e wD ⟨rfl, hbD⟩
          rw [HV.out]
          have d0 : wD.cell? ⟨wC.heap.size, 0, none⟩ = some (.int .i64 v0) := by rw [hbD.cell (by simp)]; simp
          have d1 : wD.cell? ⟨wC.heap.size, 1, none⟩ = some (.int .i64 v1) := by rw [hbD.cell (by simp)]; simp
          have d2 : wD.cell? ⟨wC.heap.size, 2, none⟩ = some (.int .i64 v2) := by rw [hbD.cell (by simp)]; simp
          have d3 : wD.cell? ⟨wC.heap.size, 3, none⟩ = some (.int .i64 v3) := by rw [hbD.cell (by simp)]; simp
          have hCD : wC.heap.size < wD.heap.size := by have := hbD.size; simp at this; omega
          have HB : Hid (Below w.heap.size w wD) := (SD.2.2.2.2.2.alloc SD.2.2.2.2.2.size _).trans (hbD.mono (by have := SD.2.2.2.2.2.size; simp; omega))
          clear SD hbD HV
          by_cases ha0 : a < -100
          · go_wp2
            go_ret
            exact ⟨rfl, HB.out.alloc HB.out.size _⟩
          by_cases ha1 : 1000000 < a
          · go_wp2
            go_ret
            exact ⟨rfl, HB.out.alloc HB.out.size _⟩
          have HZ : Hid (wD.heap.size + 1 < ((wD.alloc (.cells #[.int .i64 v0, .int .i64 v1, .int .i64 v2, .int .i64 v3] 23)).alloc (.cells #[.int .i64 1, .int .i64 2, .int .i64 4] 3)).heap.size ∧ ((wD.alloc (.cells #[.int .i64 v0, .int .i64 v1, .int .i64 v2, .int .i64 v3] 23)).alloc (.cells #[.int .i64 1, .int .i64 2, .int .i64 4] 3)).cell? ⟨wD.heap.size + 1, 0, none⟩ = some (.int .i64 1) ∧ ((wD.alloc (.cells #[.int .i64 v0, .int .i64 v1, .int .i64 v2, .int .i64 v3] 23)).alloc (.cells #[.int .i64 1, .int .i64 2, .int .i64 4] 3)).cell? ⟨wD.heap.size + 1, 1, none⟩ = some (.int .i64 2) ∧ ((wD.alloc (.cells #[.int .i64 v0, .int .i64 v1, .int .i64 v2, .int .i64 v3] 23)).alloc (.cells #[.int .i64 1, .int .i64 2, .int .i64 4] 3)).cell? ⟨wD.heap.size + 1, 2, none⟩ = some (.int .i64 4) ∧ Below w.heap.size w ((wD.alloc (.cells #[.int .i64 v0, .int .i64 v1, .int .i64 v2, .int .i64 v3] 23)).alloc (.cells #[.int .i64 1, .int .i64 2, .int .i64 4] 3))) := ⟨by simp, by simp, by simp, by simp, (HB.out.alloc HB.out.size _).alloc (by have := HB.out.size; simp; omega) _⟩
          have hmax : len ≤ maxLen := by unfold maxLen; omega
          go_wp2_with fail
          clear d0 d1 d2 d3 hCD
          go_loopw [180] (fun i wr => ∃ j : Nat, j ≤ 3 ∧ i = .int .i64 j ∧ (wD.heap.size + 1 < wr.heap.size ∧ wr.cell? ⟨wD.heap.size + 1, 0, none⟩ = some (.int .i64 1) ∧ wr.cell? ⟨wD.heap.size + 1, 1, none⟩ = some (.int .i64 2) ∧ wr.cell? ⟨wD.heap.size + 1, 2, none⟩ = some (.int .i64 4) ∧ Below w.heap.size w wr)) (fun i _ => 3 - (intOf i).toNat)
          case atStart => exact ⟨0, by omega, rfl, HZ.out⟩
          case round =>
            obtain ⟨j, hj, rfl, hS⟩ := hrel
            have q0 := hS.2.1
            have q1 := hS.2.2.1
            have q2 := hS.2.2.2.1
            have HBr : Hid (Below w.heap.size w wr.drew) := hS.2.2.2.2.drew
            have hj4 : j = 0 ∨ j = 1 ∨ j = 2 ∨ j = 3 := by omega
            rcases hj4 with rfl | rfl | rfl | rfl
            · go_wp2_with fail
              refine region30 _ _ _ _ _ _ _ _ _ _ _ _ _ _ _ _ _ _ _ _ _ _ _ _ _ _ _ _ _ _ _ _ _ _ _ _ _ _ _ _ _ _ _ _ _ _ _ _ _ _ _ _ _ _ _ _ _ _ _ _ _ _ _ _ _ _ _ _ _ _ _ _ _ _ _ _ _ _ _ _ _ _ _ _ _ _ _ _ _ _ _ _ _ _ _ _ _ _ _ _ _ _ _ _ _ _ _ _ _ _ _ _ _ _ _ _ _ _ _ _ _ _ _ _ _ _ _ _ _ _ _ _ _ _ _ _ _ _ _ _ _ _ _ _ _ _ _ _ _ _ _ _ _ _ _ _ _ _ _ _ _ _ _ _ _ _ _ _ _ _ _ _ _ _ _ _ _ _ _ _ _ _ _ _ _ _ _ _ _ _ _ _ _ _ _ _ _ _ _ _ _ _ _ _ _ ad len cap bs a z 1 w wr (wD.heap.size + 1) hlen hmax hbs HROW (by omega) (by omega) (by omega) (by omega) (hidOf hS) _ _ ?_
              intro u184 u185 u186 u187 u188 u189 u190 u191 u192 u193 u194 u195 u196 u197 u198 u199 u200 u201 u202 u203 u204 u205 u206 u207 w7 hu hS7
              subst hu
              clear hS q0 q1 q2 HBr
              go_wp2
              exact ⟨⟨1, by omega, by go_num, hS7⟩, by simp [intOf]⟩
            · go_wp2_with fail
              refine region30 _ _ _ _ _ _ _ _ _ _ _ _ _ _ _ _ _ _ _ _ _ _ _ _ _ _ _ _ _ _ _ _ _ _ _ _ _ _ _ _ _ _ _ _ _ _ _ _ _ _ _ _ _ _ _ _ _ _ _ _ _ _ _ _ _ _ _ _ _ _ _ _ _ _ _ _ _ _ _ _ _ _ _ _ _ _ _ _ _ _ _ _ _ _ _ _ _ _ _ _ _ _ _ _ _ _ _ _ _ _ _ _ _ _ _ _ _ _ _ _ _ _ _ _ _ _ _ _ _ _ _ _ _ _ _ _ _ _ _ _ _ _ _ _ _ _ _ _ _ _ _ _ _ _ _ _ _ _ _ _ _ _ _ _ _ _ _ _ _ _ _ _ _ _ _ _ _ _ _ _ _ _ _ _ _ _ _ _ _ _ _ _ _ _ _ _ _ _ _ _ _ _ _ _ _ ad len cap bs a z 2 w wr (wD.heap.size + 1) hlen hmax hbs HROW (by omega) (by omega) (by omega) (by omega) (hidOf hS) _ _ ?_
              intro u184 u185 u186 u187 u188 u189 u190 u191 u192 u193 u194 u195 u196 u197 u198 u199 u200 u201 u202 u203 u204 u205 u206 u207 w7 hu hS7
              subst hu
              clear hS q0 q1 q2 HBr
              go_wp2
              exact ⟨⟨2, by omega, by go_num, hS7⟩, by simp [intOf]⟩
            · go_wp2_with fail
              refine region30 _ _ _ _ _ _ _ _ _ _ _ _ _ _ _ _ _ _ _ _ _ _ _ _ _ _ _ _ _ _ _ _ _ _ _ _ _ _ _ _ _ _ _ _ _ _ _ _ _ _ _ _ _ _ _ _ _ _ _ _ _ _ _ _ _ _ _ _ _ _ _ _ _ _ _ _ _ _ _ _ _ _ _ _ _ _ _ _ _ _ _ _ _ _ _ _ _ _ _ _ _ _ _ _ _ _ _ _ _ _ _ _ _ _ _ _ _ _ _ _ _ _ _ _ _ _ _ _ _ _ _ _ _ _ _ _ _ _ _ _ _ _ _ _ _ _ _ _ _ _ _ _ _ _ _ _ _ _ _ _ _ _ _ _ _ _ _ _ _ _ _ _ _ _ _ _ _ _ _ _ _ _ _ _ _ _ _ _ _ _ _ _ _ _ _ _ _ _ _ _ _ _ _ _ _ ad len cap bs a z 4 w wr (wD.heap.size + 1) hlen hmax hbs HROW (by omega) (by omega) (by omega) (by omega) (hidOf hS) _ _ ?_
              intro u184 u185 u186 u187 u188 u189 u190 u191 u192 u193 u194 u195 u196 u197 u198 u199 u200 u201 u202 u203 u204 u205 u206 u207 w7 hu hS7
              subst hu
              clear hS q0 q1 q2 HBr
              go_wp2
              exact ⟨⟨3, by omega, by go_num, hS7⟩, by simp [intOf]⟩
            · go_wp2
              go_ret
              exact ⟨rfl, hS.2.2.2.2⟩

end Go.Proofs.YtnloooiimpdabaaDoor
