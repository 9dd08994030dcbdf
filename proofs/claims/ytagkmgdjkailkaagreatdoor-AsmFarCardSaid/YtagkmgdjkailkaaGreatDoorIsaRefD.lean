/- The contract of the document's own Decode. -/
import Derived.Test.YtagkmgdjkailkaaGreatDoorIsaRefN
namespace Go.Proofs.YtagkmgdjkailkaaGreatDoor.Isa
open Go.RowKit

theorem rDec_out (x : Int) (w : World) (hx : x < 0 ∨ 65535 < x) :
    Calls Tryz.prog 8 #[.int .i64 x] w fun e w' => e = .returned (.tuple #[.agg #[.int .i64 0, .int .i64 0, .int .i64 0, .int .i64 0], .int .i64 3]) ∧ Below w.heap.size w w' := by
  by_cases h : x < 0
  · go_enter Tryz.func8, Tryz.ntmps8
    go_wp2
    exact bodyPost_ret (v := .tuple #[.agg #[.int .i64 0, .int .i64 0, .int .i64 0, .int .i64 0], .int .i64 3]) (by simp [results, Tryz.results8, go_sem]) rfl ⟨rfl, (Below.refl _ _).alloc (Nat.le_refl _) _⟩
  · have h' : 65535 < x := by omega
    go_enter Tryz.func8, Tryz.ntmps8
    go_wp2
    exact bodyPost_ret (v := .tuple #[.agg #[.int .i64 0, .int .i64 0, .int .i64 0, .int .i64 0], .int .i64 3]) (by simp [results, Tryz.results8, go_sem]) rfl ⟨rfl, (Below.refl _ _).alloc (Nat.le_refl _) _⟩

/-- The instruction that is being read lies in box B, above W. -/
structure InnerAt (B : Nat) (W : World) (k n m i : Int) (x : World) : Prop where
  bel : Below B W x
  lt : B < x.heap.size
  c0 : x.cell? ⟨B, 0, none⟩ = some (.int .i64 k)
  c1 : x.cell? ⟨B, 1, none⟩ = some (.int .i64 n)
  c2 : x.cell? ⟨B, 2, none⟩ = some (.int .i64 m)
  c3 : x.cell? ⟨B, 3, none⟩ = some (.int .i64 i)
  fz : ∀ j, x.frozen? ⟨B, j, none⟩ = false

theorem InnerAt.start0 (W : World) (k : Int) : InnerAt W.heap.size W k 0 0 0 (W.alloc (.cells #[.int .i64 k, .int .i64 0, .int .i64 0, .int .i64 0] 37)) where
  bel := (Below.refl _ _).alloc (Nat.le_refl _) _
  lt := by simp
  c0 := by simp
  c1 := by simp
  c2 := by simp
  c3 := by simp
  fz j := by unfold World.frozen?; rw [heap_alloc_new]; simp

theorem InnerAt.start (W : World) (B : Nat) (hB : B = W.heap.size) (k : Int) : InnerAt B W k 0 0 0 (W.alloc (.cells #[.int .i64 k, .int .i64 0, .int .i64 0, .int .i64 0] 37)) := by
  subst hB
  exact InnerAt.start0 W k

theorem addr_ne {B i j : Nat} (h : i ≠ j) : (⟨B, i, none⟩ : Addr) ≠ ⟨B, j, none⟩ := by
  intro e; cases e; exact h rfl

theorem InnerAt.set1 {B : Nat} {W x : World} {k n m i : Int} (h : InnerAt B W k n m i x) (v : Int) : InnerAt B W k v m i (x.setCell ⟨B, 1, none⟩ (.int .i64 v)) where
  bel := h.bel.setCell (Nat.le_refl _) _
  lt := by simpa using h.lt
  c0 := by rw [World.cell?_setCell_other _ _ _ _ (addr_ne (by decide))]; exact h.c0
  c1 := World.cell?_setCell_same _ _ _ h.c1
  c2 := by rw [World.cell?_setCell_other _ _ _ _ (addr_ne (by decide))]; exact h.c2
  c3 := by rw [World.cell?_setCell_other _ _ _ _ (addr_ne (by decide))]; exact h.c3
  fz j := by rw [World.frozen?_setCell]; exact h.fz j
theorem InnerAt.set2 {B : Nat} {W x : World} {k n m i : Int} (h : InnerAt B W k n m i x) (v : Int) : InnerAt B W k n v i (x.setCell ⟨B, 2, none⟩ (.int .i64 v)) where
  bel := h.bel.setCell (Nat.le_refl _) _
  lt := by simpa using h.lt
  c0 := by rw [World.cell?_setCell_other _ _ _ _ (addr_ne (by decide))]; exact h.c0
  c1 := by rw [World.cell?_setCell_other _ _ _ _ (addr_ne (by decide))]; exact h.c1
  c2 := World.cell?_setCell_same _ _ _ h.c2
  c3 := by rw [World.cell?_setCell_other _ _ _ _ (addr_ne (by decide))]; exact h.c3
  fz j := by rw [World.frozen?_setCell]; exact h.fz j
theorem InnerAt.set3 {B : Nat} {W x : World} {k n m i : Int} (h : InnerAt B W k n m i x) (v : Int) : InnerAt B W k n m v (x.setCell ⟨B, 3, none⟩ (.int .i64 v)) where
  bel := h.bel.setCell (Nat.le_refl _) _
  lt := by simpa using h.lt
  c0 := by rw [World.cell?_setCell_other _ _ _ _ (addr_ne (by decide))]; exact h.c0
  c1 := by rw [World.cell?_setCell_other _ _ _ _ (addr_ne (by decide))]; exact h.c1
  c2 := by rw [World.cell?_setCell_other _ _ _ _ (addr_ne (by decide))]; exact h.c2
  c3 := World.cell?_setCell_same _ _ _ h.c3
  fz j := by rw [World.frozen?_setCell]; exact h.fz j

/-- What the inner loop's state may be. -/
def StOk (j : Nat) (s : DecSt) : Prop := 0 ≤ s.n ∧ s.n < 2 ^ j ∧ 0 ≤ s.m ∧ s.m < 2 ^ j ∧ 0 ≤ s.i ∧ s.i < 2 ^ j ∧ 0 ≤ s.d ∧ s.d ≤ j

theorem txt_drop (s : ByteArray) (j : Nat) (hj : j < s.size) : s.data.toList.drop j = s[j] :: s.data.toList.drop (j + 1) := by
  rw [List.drop_eq_getElem_cons (by simpa using hj)]
  rfl

/-- What the number's range says of its width. -/
theorem low_facts (k : Nat) (h : k < 28) : (layLow (opShape k) < 0 ∧ (wideI k = 8 ∧ layHigh (opShape k) = 127 ∨ wideI k = 12 ∧ layHigh (opShape k) = 2047)) ∨ (¬ layLow (opShape k) < 0 ∧ layHigh (opShape k) = ((2 ^ wideI k : Nat) : Int) - 1) := by
  have : ∀ j : Fin 28, (layLow (opShape j.val) < 0 ∧ (wideI j.val = 8 ∧ layHigh (opShape j.val) = 127 ∨ wideI j.val = 12 ∧ layHigh (opShape j.val) = 2047)) ∨ (¬ layLow (opShape j.val) < 0 ∧ layHigh (opShape j.val) = ((2 ^ wideI j.val : Nat) : Int) - 1) := by decide +kernel
  exact this ⟨k, h⟩

set_option maxRecDepth 100000 in
set_option maxHeartbeats 4000000 in
theorem rDec_in (x : Nat) (w : World) (hx : x < 65536) :
    Calls Tryz.prog 8 #[.int .i64 (x : Int)] w fun e w' => e = .returned (.tuple #[decV x, .int .i64 (decE x)]) ∧ Below w.heap.size w w' := by
  have hx1 : (x : Int) ≤ 65535 := by omega
  have hd1 : decide ((x : Int) < 0) = false := by simp
  have hd2 : decide (65535 < (x : Int)) = false := by simp; omega
  have HW : Hid (withinB (x : Int) 0 65535 = true) := within_nat hx
  go_enter Tryz.func8, Tryz.ntmps8
  go_wp2_with fail
  go_loopw [4] (fun s4 wr => ∃ k : Nat, 1 ≤ k ∧ k ≤ 28 ∧ s4 = .int .i64 k ∧ Below (w.heap.size + 1) (w.alloc (.cells #[.int .i64 0, .int .i64 0, .int .i64 0, .int .i64 0] 37)) wr ∧ Hid (decFrom x 28 0 = decFrom x (28 - k) k)) (fun s4 _ => 28 - (intOf s4).toNat)
  case atStart => exact ⟨1, Nat.le_refl _, by omega, rfl, Below.refl _ _, dec_no (k := 0) (by omega) rfl (by rw [decHit, show knownB ((0 : Nat) : Int) = false by decide +kernel]; rfl)⟩
  case round =>
    obtain ⟨k, hk1, hk2, rfl, hB, HF⟩ := hrel
    by_cases hlt : k < 28
    · have hk' : (k : Int) ≤ 27 := by omega
      go_wp2_with fail
      refine (rows_let _).mono ?_
      rintro e w1 ⟨g, rfl, hg1, hb1, hg2, hg3⟩
      have hl := run_look_plain w1 g (k : Int) hg1
      have hB1 := hB.trans (hb1.mono (by have := hB.size; simpa using this))
      have hkn : knownB (k : Int) = true := by simp [knownB, withinB]; omega
      have hsz : (refBits (k : Int)).size = 16 := refBits_16 k (by omega) (by omega)
      have ht : refTxt (k : Int) = refBits (k : Int) := by simp [refTxt, hkn]
      have hsh : infoShape (k : Int) = opShape (k : Int) := by simp [infoShape, hkn]
      rw [ht, hsh] at hl
      have HT : Hid (refTxt (k : Int) = refBits (k : Int)) := ht
      have HB1 : Hid (Below (w.heap.size + 1) (w.alloc (.cells #[.int .i64 0, .int .i64 0, .int .i64 0, .int .i64 0] 37)) w1) := hB1
      clear hb1 hB hB1 hg1 hg2 hg3 hkn ht hsh
      go_wp2_with fail
      clear hl
      go_loopw [7, 8, 29] (fun s7 s8 s29 wi => ∃ (j : Nat) (st : DecSt), j ≤ 16 ∧ s29 = .int .i64 j ∧ s7 = .bool st.f ∧ s8 = .int .i64 st.d ∧ StOk j st ∧ InnerAt (w1.heap.size + 1) (w1.alloc (.cells #[.string (infoName k), .int .i64 (opShape k), .string (refBits k)] 56)) k st.n st.m st.i wi ∧ Hid (decRun x ((txtBits k).drop j) j st = decRun x (txtBits k) 0 dec0)) (fun _ _ i _ => 16 - (intOf i).toNat)
      case atStart => exact ⟨0, dec0, Nat.zero_le _, rfl, rfl, rfl, by simp [StOk, dec0], InnerAt.start _ _ (by simp) _, rfl⟩
      case round =>
        obtain ⟨j, ⟨f, n, m, i, d⟩, hj, rfl, rfl, rfl, hst, hin, HD⟩ := hrel
        simp only [StOk] at hst
        obtain ⟨n0, n1, m0, m1, i0, i1, d0, d1⟩ := hst
        by_cases hjl : j < 16
        · have hj' : (j : Int) < 16 := by omega
          have hs5 : wr.cell? ⟨w1.heap.size, 2, none⟩ = some (.string (refBits k)) := by rw [hin.bel.cell (by simp)]; simp
          have hidx := index9 (refBits k) j (j : Int) rfl (by omega)
          have hdr : (txtBits k).drop j = (refBits k)[j] :: (txtBits k).drop (j + 1) := txt_drop _ j (by omega)
          rw [hdr] at HD
          have hsh : (15 - (j : Int)).toNat = 15 - j := by omega
          have hand := and_one ((x : Int) / 2 ^ (15 - j))
          have hb : 0 ≤ (x : Int) / 2 ^ (15 - j) % 2 ∧ (x : Int) / 2 ^ (15 - j) % 2 ≤ 1 := by omega
          obtain ⟨hb0, hb1⟩ := hb
          have hp : (2 : Int) ^ j ≤ 32768 := by
            have := Nat.pow_le_pow_right (n := 2) (by omega) (show j ≤ 15 by omega)
            have h2 : ((2 ^ j : Nat) : Int) ≤ ((2 ^ 15 : Nat) : Int) := by omega
            simpa using h2
          have HQ : Hid ((2 : Int) ^ (j + 1) = 2 * 2 ^ j) := by show _ = _; rw [Int.pow_succ]; omega
          have cc1 := hin.c1
          have cc2 := hin.c2
          have cc3 := hin.c3
          have ff1 := hin.fz 1
          have ff2 := hin.fz 2
          have ff3 := hin.fz 3
          clear hdr
          generalize (refBits k)[j] = c at *
          by_cases c48 : c = 48
          · subst c48
            rw [dr48] at HD
            cases f
            · go_wp2
              exact ⟨⟨j + 1, ⟨false, n, m, i, d⟩, by omega, by go_num, rfl, by go_num, by simp only [StOk]; rw [HQ.out]; omega, hin, HD⟩, by simp [intOf]; omega⟩
            · go_wp2
              exact ⟨⟨j + 1, ⟨(x : Int) / 2 ^ (15 - j) % 2 == 0, n, m, i, d⟩, by omega, by go_num, rfl, by go_num, by simp only [StOk]; rw [HQ.out]; omega, hin, HD⟩, by simp [intOf]; omega⟩
          by_cases c49 : c = 49
          · subst c49
            rw [dr49] at HD
            cases f
            · go_wp2
              exact ⟨⟨j + 1, ⟨false, n, m, i, d⟩, by omega, by go_num, rfl, by go_num, by simp only [StOk]; rw [HQ.out]; omega, hin, HD⟩, by simp [intOf]; omega⟩
            · go_wp2
              exact ⟨⟨j + 1, ⟨(x : Int) / 2 ^ (15 - j) % 2 == 1, n, m, i, d⟩, by omega, by go_num, rfl, by go_num, by simp only [StOk]; rw [HQ.out]; omega, hin, HD⟩, by simp [intOf]; omega⟩
          by_cases c110 : c = 110
          · subst c110
            rw [dr110] at HD
            go_wp2
            exact ⟨⟨j + 1, ⟨f, 2 * n + (x : Int) / 2 ^ (15 - j) % 2, m, i, d⟩, by omega, by go_num, rfl, by go_num, by simp only [StOk]; rw [HQ.out]; omega, hin.set1 _, HD⟩, by simp [intOf]; omega⟩
          by_cases c109 : c = 109
          · subst c109
            rw [dr109] at HD
            go_wp2
            exact ⟨⟨j + 1, ⟨f, n, 2 * m + (x : Int) / 2 ^ (15 - j) % 2, i, d⟩, by omega, by go_num, rfl, by go_num, by simp only [StOk]; rw [HQ.out]; omega, hin.set2 _, HD⟩, by simp [intOf]; omega⟩
          have t1 : ((c.toNat : Int) == 48) = false := beq_eq_false_iff_ne.2 (fun e => c48 (UInt8.toNat_inj.1 (by simpa using Int.ofNat.inj e)))
          have t2 : ((c.toNat : Int) == 49) = false := beq_eq_false_iff_ne.2 (fun e => c49 (UInt8.toNat_inj.1 (by simpa using Int.ofNat.inj e)))
          have t3 : ((c.toNat : Int) == 110) = false := beq_eq_false_iff_ne.2 (fun e => c110 (UInt8.toNat_inj.1 (by simpa using Int.ofNat.inj e)))
          have t4 : ((c.toNat : Int) == 109) = false := beq_eq_false_iff_ne.2 (fun e => c109 (UInt8.toNat_inj.1 (by simpa using Int.ofNat.inj e)))
          have HD2 : Hid (decRun x ((txtBits k).drop (j + 1)) (j + 1) ⟨f, n, m, 2 * i + (x : Int) / 2 ^ (15 - j) % 2, d + 1⟩ = decRun x (txtBits k) 0 dec0) := by
            have := HD.out
            rwa [decRun, if_neg c48, if_neg c49, if_neg c110, if_neg c109] at this
          clear HD c48 c49 c110 c109
          go_wp2
          exact ⟨⟨j + 1, ⟨f, n, m, 2 * i + (x : Int) / 2 ^ (15 - j) % 2, d + 1⟩, by omega, by go_num, rfl, by go_num, by simp only [StOk]; rw [HQ.out]; omega, hin.set3 _, HD2⟩, by simp [intOf]; omega⟩
        · have hj16 : j = 16 := by omega
          subst hj16
          have hst : (⟨f, n, m, i, d⟩ : DecSt) = ⟨decHit (x : Int) (k : Int), ((Nat.land (x / 256) (2 ^ wideN k - 1) : Nat) : Int), ((Nat.land (x / 16) (2 ^ wideM k - 1) : Nat) : Int), ((x % 2 ^ wideI k : Nat) : Int), ((wideI k : Nat) : Int)⟩ := by
            rw [← dr_all k hk1 hlt x hx, ← HD.out, List.drop_of_length_le (by show (refBits k).size ≤ 16; omega)]
            rfl
          rw [DecSt.mk.injEq] at hst
          obtain ⟨e1, e2, e3, e4, e5⟩ := hst
          have hbig : w.heap.size + 1 ≤ w1.heap.size := by have := HB1.out.size; simpa using this
          have HB2 : Hid (Below (w.heap.size + 1) (w.alloc (.cells #[.int .i64 0, .int .i64 0, .int .i64 0, .int .i64 0] 37)) wr) := (HB1.out.alloc hbig _).trans (hin.bel.mono (by omega))
          clear n0 n1 m0 m1 i1 d1 HD
          cases hh : decHit (x : Int) (k : Int)
          · rw [hh] at e1
            subst e1
            have HN : Hid (decHit (x : Int) (k : Int) = false) := hh
            clear hh e2 e3 e4 e5
            go_wp2
            exact ⟨⟨k + 1, by omega, by omega, by go_num, HB2.out, dec_no hlt HF.out HN.out⟩, by simp [intOf]; omega⟩
          · rw [hh] at e1
            subst e1
            have HV : Hid (decV x = .agg #[.int .i64 k, .int .i64 n, .int .i64 m, .int .i64 (if layHigh (opShape k) < i then i - ((2 ^ wideI k : Nat) : Int) else i)] ∧ decE x = 0) := by
              obtain ⟨v1, v2⟩ := decV_hit hlt HW.out HF.out hh
              refine ⟨?_, v2⟩
              rw [v1, rdV_nat k x hlt hx, e2, e3, e4]
            have hi2 : i < ((2 ^ wideI k : Nat) : Int) := by rw [e4]; have := Nat.mod_lt x (Nat.two_pow_pos (wideI k)); omega
            have hs51 : wr.cell? ⟨w1.heap.size, 1, none⟩ = some (.int .i64 (opShape k)) := by rw [hin.bel.cell (by simp)]; simp
            have cc0 := hin.c0
            have cc1 := hin.c1
            have cc2 := hin.c2
            have cc3 := hin.c3
            have ff3 := hin.fz 3
            obtain ⟨hc, hf⟩ := bcellB HB2.out
            have hgz := hin.lt
            have HI := hin
            clear hh e2 e3 e4 hin
            have lf := low_facts k hlt
            rcases lf with ⟨hlow, lf⟩ | ⟨hlow, lf⟩
            · rcases lf with ⟨hw, hhi⟩ | ⟨hw, hhi⟩
              · have hd' : d = 8 := by rw [hw] at e5; omega
                subst hd'
                have hfull : ((2 ^ wideI k : Nat) : Int) = 256 := by rw [hw]; rfl
                by_cases hge : 128 ≤ i
                · have HX : Hid ((if layHigh (opShape k) < i then i - ((2 ^ wideI k : Nat) : Int) else i) = i - 256) := by show _ = _; rw [if_pos (by omega), hfull]
                  have hi3 : i < 256 := by omega
                  clear hi2 e5 hw hhi hfull
                  go_wp2_with (go_at_call 17; refine (rRange_any _ _).mono ?_; rintro e w' ⟨rfl, rfl⟩)
                  go_quiet (fail)
                  go_wp2
                  go_region
                  go_wp2
                  refine bodyPost_ret (v := .tuple #[.agg #[.int .i64 k, .int .i64 n, .int .i64 m, .int .i64 (i - 256)], .int .i64 0]) (by simp [results, Tryz.results8, go_sem, hc]) rfl ⟨by rw [HV.out.1, HV.out.2, HX.out], ?_⟩
                  have HZ := ((Below.refl w.heap.size w).alloc (Nat.le_refl _) (.cells #[.int .i64 0, .int .i64 0, .int .i64 0, .int .i64 0] 37)).trans (HB2.out.mono (by omega))
                  exact (((((below_draws HZ _).setCell (by show w.heap.size ≤ w1.heap.size + 1; omega) _).setCell (Nat.le_refl _) _).setCell (Nat.le_refl _) _).setCell (Nat.le_refl _) _).setCell (Nat.le_refl _) _
                · have hge' : decide (128 ≤ i) = false := by simpa using hge
                  have HX : Hid ((if layHigh (opShape k) < i then i - ((2 ^ wideI k : Nat) : Int) else i) = i) := by show _ = _; rw [if_neg (by omega)]
                  clear hi2 e5 hw hhi hfull
                  go_wp2_with (go_at_call 17; refine (rRange_any _ _).mono ?_; rintro e w' ⟨rfl, rfl⟩)
                  go_quiet (fail)
                  go_wp2
                  refine bodyPost_ret (v := .tuple #[.agg #[.int .i64 k, .int .i64 n, .int .i64 m, .int .i64 i], .int .i64 0]) (by simp [results, Tryz.results8, go_sem, hc]) rfl ⟨by rw [HV.out.1, HV.out.2, HX.out], ?_⟩
                  exact ((((below_draws (((Below.refl w.heap.size w).alloc (Nat.le_refl _) _).trans (HB2.out.mono (by omega))) _).setCell (by simp) _).setCell (by simp) _).setCell (by simp) _).setCell (by simp) _
              · have hd' : d = 12 := by rw [hw] at e5; omega
                subst hd'
                have hfull : ((2 ^ wideI k : Nat) : Int) = 4096 := by rw [hw]; rfl
                by_cases hge : 2048 ≤ i
                · have HX : Hid ((if layHigh (opShape k) < i then i - ((2 ^ wideI k : Nat) : Int) else i) = i - 4096) := by show _ = _; rw [if_pos (by omega), hfull]
                  have hi3 : i < 4096 := by omega
                  clear hi2 e5 hw hhi hfull
                  go_wp2_with (go_at_call 17; refine (rRange_any _ _).mono ?_; rintro e w' ⟨rfl, rfl⟩)
                  go_quiet (fail)
                  go_wp2
                  go_region
                  go_wp2
                  refine bodyPost_ret (v := .tuple #[.agg #[.int .i64 k, .int .i64 n, .int .i64 m, .int .i64 (i - 4096)], .int .i64 0]) (by simp [results, Tryz.results8, go_sem, hc]) rfl ⟨by rw [HV.out.1, HV.out.2, HX.out], ?_⟩
                  have HZ := ((Below.refl w.heap.size w).alloc (Nat.le_refl _) (.cells #[.int .i64 0, .int .i64 0, .int .i64 0, .int .i64 0] 37)).trans (HB2.out.mono (by omega))
                  exact (((((below_draws HZ _).setCell (by show w.heap.size ≤ w1.heap.size + 1; omega) _).setCell (Nat.le_refl _) _).setCell (Nat.le_refl _) _).setCell (Nat.le_refl _) _).setCell (Nat.le_refl _) _
                · have hge' : decide (2048 ≤ i) = false := by simpa using hge
                  have HX : Hid ((if layHigh (opShape k) < i then i - ((2 ^ wideI k : Nat) : Int) else i) = i) := by show _ = _; rw [if_neg (by omega)]
                  clear hi2 e5 hw hhi hfull
                  go_wp2_with (go_at_call 17; refine (rRange_any _ _).mono ?_; rintro e w' ⟨rfl, rfl⟩)
                  go_quiet (fail)
                  go_wp2
                  refine bodyPost_ret (v := .tuple #[.agg #[.int .i64 k, .int .i64 n, .int .i64 m, .int .i64 i], .int .i64 0]) (by simp [results, Tryz.results8, go_sem, hc]) rfl ⟨by rw [HV.out.1, HV.out.2, HX.out], ?_⟩
                  exact ((((below_draws (((Below.refl w.heap.size w).alloc (Nat.le_refl _) _).trans (HB2.out.mono (by omega))) _).setCell (by simp) _).setCell (by simp) _).setCell (by simp) _).setCell (by simp) _
            · have hld : decide (layLow (opShape k) < 0) = false := by simpa using hlow
              have HX : Hid ((if layHigh (opShape k) < i then i - ((2 ^ wideI k : Nat) : Int) else i) = i) := by show _ = _; rw [if_neg (by omega)]
              clear lf hlow hi2 e5
              go_wp2_with (go_at_call 17; refine (rRange_any _ _).mono ?_; rintro e w' ⟨rfl, rfl⟩)
              go_quiet (fail)
              go_wp2
              refine bodyPost_ret (v := .tuple #[.agg #[.int .i64 k, .int .i64 n, .int .i64 m, .int .i64 i], .int .i64 0]) (by simp [results, Tryz.results8, go_sem, hc]) rfl ⟨by rw [HV.out.1, HV.out.2, HX.out], ?_⟩
              exact ((((below_draws (((Below.refl w.heap.size w).alloc (Nat.le_refl _) _).trans (HB2.out.mono (by omega))) _).setCell (by simp) _).setCell (by simp) _).setCell (by simp) _).setCell (by simp) _
    · have hk28 : k = 28 := by omega
      subst hk28
      have HV : Hid (decV x = .agg #[.int .i64 0, .int .i64 0, .int .i64 0, .int .i64 0] ∧ decE x = 12) := decV_none HW.out HF.out
      obtain ⟨hc, hf⟩ := bcellB hB
      have HB : Hid (Below w.heap.size w wr) := ((Below.refl w.heap.size w).alloc (Nat.le_refl _) _).trans (hB.mono (by omega))
      clear hB
      go_wp2
      refine bodyPost_ret (v := .tuple #[.agg #[.int .i64 0, .int .i64 0, .int .i64 0, .int .i64 0], .int .i64 12]) (by simp [results, Tryz.results8, go_sem, hc]) rfl ⟨by rw [HV.out.1, HV.out.2], ?_⟩
      exact (((HB.out.setCell (Nat.le_refl _) _).setCell (Nat.le_refl _) _).setCell (Nat.le_refl _) _).setCell (Nat.le_refl _) _

theorem rDec_any (x : Int) (w : World) :
    Calls Tryz.prog 8 #[.int .i64 x] w fun e w' => e = .returned (.tuple #[decV x, .int .i64 (decE x)]) ∧ Below w.heap.size w w' := by
  by_cases hx : 0 ≤ x ∧ x ≤ 65535
  · obtain ⟨y, rfl⟩ := Int.eq_ofNat_of_zero_le hx.1
    exact rDec_in y w (by omega)
  · have hw : withinB x 0 65535 = false := by simp [withinB]; omega
    have e1 : decV x = .agg #[.int .i64 0, .int .i64 0, .int .i64 0, .int .i64 0] := by simp [decV, hw]
    have e2 : decE x = 3 := by simp [decE, hw]
    rw [e1, e2]
    exact rDec_out x w (by omega)

end Go.Proofs.YtagkmgdjkailkaaGreatDoor.Isa
