/- The document's own Text. -/
import Derived.Test.YtgadpimknobljaaDoorDrB
namespace Go.Proofs.YtgadpimknobljaaDoor
open Go.RowKit Isa Go.Maps Go.MapKept

theorem newMap47 (w : World) : (Instr.makeMap 47 none).run Tryd.prog w = .ok (.map (some w.heap.size)) (w.alloc (.map #[] 0)) := by kernel_rfl
theorem newS (w : World) (a : Value) (t : TypeId) : ∀ j u, [a][j]? = some u → (w.alloc (.cells #[a] t)).cell? ((⟨w.heap.size, 0, none⟩ : Addr).add j) = some u := by
  intro j u h
  cases j with
  | zero => simp only [List.getElem?_cons_zero, Option.some.injEq] at h; subst h; simp only [Addr.add, Nat.add_zero, ite_self]; rw [World.cell?_alloc_new]; rfl
  | succ j => simp at h
theorem oneS (s : ByteArray) : ∀ u ∈ [Value.string s], u.oneCell' = true := by simp [Value.oneCell']

theorem up_block {W W' : World} {mb q : Nat} {o : Obj} (hg : W.grownBy W' (some mb)) (hq : W.heap[q]? = some o) (hne : q ≠ mb) : W'.heap[q]? = some o :=
  (hg.block q (Array.getElem?_eq_some_iff.1 hq).1 (by simpa using hne)).trans hq
theorem RT.mlt {bs : Nat → Int} {len : Nat} {w : World} {mb r k : Nat} {x : Value} {W : World} (h : RT bs len w mb r k x W) : mb < W.heap.size := by
  obtain ⟨D, hm, _⟩ := h.mp
  exact hm.lt

set_option maxHeartbeats 8000000 in
set_option maxRecDepth 100000 in
theorem rtext_any {w : World} {ad : Option Addr} {len cap : Nat} {bs : Nat → Int} (hD : DL w) (hR : BR w ad len bs) :
    Calls Tryd.prog 5 #[.slice ad len cap] w fun e w' => e = .returned (.string ⟨(textTo bs len ((len + 1) / 2)).toArray⟩) ∧ Below w.heap.size w w' := by
  obtain ⟨i0, hi, hz0, hz1, hz2⟩ := info9'
  have hf := hR.few
  have HR := Lib.hid hR
  have HBY := Lib.hid hR.byt
  have HRB := Lib.hid (fun k => rowL_few hR.byt len k)
  have HTF := Lib.hid (fun k => textTo_few hR.byt len k)
  have HDL : Hid (∀ W, Below w.heap.size w W → DL W) := fun W hb => hD.next hb
  have hmm := newMap47
  have HI0 : Hid (RT bs len w w.heap.size 0 0 (.slice none 0 0) (w.alloc (.map #[] 0))) := ⟨oalloc _ _, World.ownsRow_nil _ _ _ _, ⟨_, World.ownsMap_made w _ _ _, MB.nil bs len⟩, Nat.le_refl _⟩
  obtain ⟨h, hh⟩ : ∃ h, h = (len + 1) / 2 := ⟨_, rfl⟩
  have HTX : Hid (∀ j, textTo bs len (j + 1) = textTo bs len j ++ (if ledB bs len h j = true then placeL (2 * j) ++ [58, 10] else []) ++ (rowL bs len j ++ [10])) := fun j => by rw [hh]; rfl
  rw [← hh]
  have HH := Lib.hid hh
  have hhb : h ≤ 1048577 := by omega
  clear hD hR hh
  go_enter Tryd.func5, Tryd.ntmps5
  go_wp2_with fail
  go_loopw [3, 5] (fun x i W => ∃ (k : Nat) (a : Int), i = .int .i64 a ∧ Hid (a = 2 * k ∧ 2 * k ≤ len + 1) ∧ (0 ≤ a ∧ a ≤ 1048578) ∧ Hid (RT bs len w w.heap.size k k x W)) (fun _ i _ => len + 2 - (intOf i).toNat)
  case atStart => exact ⟨0, 0, rfl, ⟨rfl, by omega⟩, ⟨by omega, by omega⟩, HI0⟩
  case round =>
    obtain ⟨k, a, rfl, HA, ⟨ha0, ha1⟩, HI⟩ := hrel
    clear HI0 hmm
    obtain ⟨x, rfl⟩ : ∃ x, x = u3 := ⟨_, rfl⟩
    obtain ⟨xa, xc, rfl, hxg⟩ := HI.out.shape
    have HXG := Lib.hid hxg
    clear hxg
    by_cases hlt : a < (len : Int)
    · have hk : 2 * k < len := by have := HA.out; omega
      obtain ⟨b, off, rfl, hbw, hbc⟩ := HR.out.row (by omega)
      have HBC := Lib.hid hbc
      clear hbc
      by_cases hl : 2 * k + 1 < len
      · have hla : (a + 1 == (len : Int)) = false := by have := HA.out; simp; omega
        have hat : a.toNat = 2 * k := by have := HA.out; omega
        have hat1 : (a + 1).toNat = 2 * k + 1 := by have := HA.out; omega
        have hlt1 : a + 1 < (len : Int) := by have := HA.out; omega
        have c0 : wr.cell? ⟨b, off + a.toNat, none⟩ = some (.int .u8 (bs (2 * k))) := by rw [hat]; exact (HI.out.bel.cell (p := ⟨b, off + 2 * k, none⟩) hbw).trans (HBC.out _ hk)
        have c1 : wr.cell? ⟨b, off + (a + 1).toNat, none⟩ = some (.int .u8 (bs (2 * k + 1))) := by rw [hat1]; exact (HI.out.bel.cell (p := ⟨b, off + (2 * k + 1), none⟩) hbw).trans (HBC.out _ hl)
        obtain ⟨y00, y01⟩ := HBY.out (2 * k)
        obtain ⟨y10, y11⟩ := HBY.out (2 * k + 1)
        have hxv : 256 * bs (2 * k) + bs (2 * k + 1) = halfW bs k := by unfold halfW; omega
        have hxb := hw_bd HBY.out k
        obtain ⟨hdv, b1, b2, b3, b4, b5, b6⟩ := dV_all (halfW bs k)
        have HQ : Hid (∀ nq, ∃ w1, w1 = wr.drewN nq ∧ RT bs len w w.heap.size k k (.slice xa k xc) w1) := fun nq => ⟨_, rfl, HI.out.next (Go.Joins.below_draws _ wr nq)⟩
        have HDE : Hid (∀ W, Calls Tryd.prog 19 #[.int .i64 (halfW bs k)] W fun e w' => e = .returned (.tuple #[.agg #[.int .i64 (dV (halfW bs k) 0), .int .i64 (dV (halfW bs k) 1), .int .i64 (dV (halfW bs k) 2), .int .i64 (dV (halfW bs k) 3)], .int .i64 (decE (halfW bs k))]) ∧ Below W.heap.size W w') := fun W => by
          have := rDec_any (halfW bs k) W
          rw [hdv] at this
          exact this
        have HTO : Hid (∀ W, Calls Tryd.prog 8 #[.agg #[.int .i64 (dV (halfW bs k) 0), .int .i64 (dV (halfW bs k) 1), .int .i64 (dV (halfW bs k) 2), .int .i64 (dV (halfW bs k) 3)], .int .i64 a] W fun e w' => e = .returned (.tuple #[.int .i64 (goalOf bs k), .bool (toB (dV (halfW bs k) 0))]) ∧ Below W.heap.size W w') := fun W => by
          have := rto_any (dV (halfW bs k) 0) (dV (halfW bs k) 1) (dV (halfW bs k) 2) (dV (halfW bs k) 3) a W (by omega) (by omega) b5 b6
          rw [HA.out.1] at this ⊢
          exact this
        have HIT : Hid (∀ W, Below w.heap.size w W → Calls Tryd.prog 18 #[.int .i64 (halfW bs k)] W fun e w' => e = .returned (.string ⟨(Lib.itoa (halfW bs k)).toArray⟩) ∧ Below W.heap.size W w') := fun W hb => itoa_any _ (by omega) (by omega) W (HDL.out W hb)
        have hil := itoa_few (halfW bs k) (by omega) (by omega)
        have HLI : Hid (toldB bs len k = true → ∀ W, Below w.heap.size w W → Calls Tryd.prog 10 #[.agg #[.int .i64 (dV (halfW bs k) 0), .int .i64 (dV (halfW bs k) 1), .int .i64 (dV (halfW bs k) 2), .int .i64 (dV (halfW bs k) 3)], .int .i64 a] W fun e w' => e = .returned (.string ⟨(rowL bs len k).toArray⟩) ∧ Below W.heap.size W w') := fun htd W hb => by
          have := rline_any (dV (halfW bs k) 0) (dV (halfW bs k) 1) (dV (halfW bs k) 2) (dV (halfW bs k) 3) a W (HDL.out W hb) (by omega) (by omega) b1 b2 b3 b4 b5 b6
          unfold rowL
          rw [if_pos htd]
          rw [HA.out.1] at this ⊢
          exact this
        have HNR : Hid (toldB bs len k = false → (⟨#[46, 119, 111, 114, 100, 32]⟩ : ByteArray) ++ ⟨(Lib.itoa (halfW bs k)).toArray⟩ = ⟨(rowL bs len k).toArray⟩) := fun htd => by
          unfold rowL
          rw [if_neg (by rw [htd]; simp), if_pos hl]
          exact bcat [46, 119, 111, 114, 100, 32] _
        have hsl : ¬ 9223372036854775807 < 6 + (Lib.itoa (halfW bs k)).length := by omega
        have HBAD := Lib.hid (told_bad (bs := bs) (len := len) (k := k))
        have HIS := Lib.hid (told_is (bs := bs) hl)
        have HSK := Lib.hid (fun (h : toldB bs len k = false) => show leadB bs len k = false by unfold leadB; rw [h]; rfl)
        have HLD : Hid (toldB bs len k = true → leadB bs len k = toB (dV (halfW bs k) 0)) := fun h => by unfold leadB; rw [h]; rfl
        have HPU : Hid (∀ W, leadB bs len k = true → 0 ≤ goalOf bs k → goalOf bs k < len → RT bs len w w.heap.size k k (.slice xa k xc) W → ∃ W', (Instr.mapUpdate 47 (.map (some w.heap.size)) (.int .i64 (goalOf bs k)) (.bool true)).run Tryd.prog W = .ok () W' ∧ RT bs len w w.heap.size k (k + 1) (.slice xa k xc) W' ∧ W.grownBy W' (some w.heap.size)) := fun W hl h0 h1 h => h.put hl (by omega) (by omega) (by omega)
        have h63 : k + 1 ≤ maxLen := by unfold maxLen; omega
        have hb16 : (k + 1) * 16 ≤ 140737488355328 := by omega
        have HM : Hid (len + 2 - (a + 2).toNat < len + 2 - a.toNat) := by have := HA.out; unfold Hid; omega
        have HA2 : Hid (a + 2 = 2 * ((k + 1 : Nat) : Int) ∧ 2 * (k + 1) ≤ len + 1) := by have := HA.out; unfold Hid; omega
        have HAP : Hid (∀ (r : Nat) (v' : Value) (W W' : World), RT bs len w w.heap.size k r (.slice xa k xc) W → W'.ownsRow w.heap.size 9 1 v' (k + 1) (scells (rowsL bs len k) ++ [.string ⟨(rowL bs len k).toArray⟩]) → W.grownBy W' (Value.slice xa k xc).ownBlock → RT bs len w w.heap.size (k + 1) r v' W') := fun r v' W W' h ho hg => h.app ho hg
        have HSKP : Hid (∀ (r : Nat) (v' : Value) (W : World), leadB bs len k = false → RT bs len w w.heap.size r k v' W → RT bs len w w.heap.size r (k + 1) v' W) := fun r v' W hl h => h.skip hl
        clear hat hat1 hdv b1 b2 b3 b4 b5 b6
        generalize bs (2 * k) = v0 at *
        generalize bs (2 * k + 1) = v1 at *
        generalize decE (halfW bs k) = ee at *
        generalize toB (dV (halfW bs k) 0) = tb at *
        generalize dV (halfW bs k) 0 = d0 at *
        generalize dV (halfW bs k) 1 = d1 at *
        generalize dV (halfW bs k) 2 = d2 at *
        generalize dV (halfW bs k) 3 = d3 at *
        generalize Lib.itoa (halfW bs k) = il at *
        generalize halfW bs k = x at *
        generalize goalOf bs k = gl at *
        generalize toldB bs len k = td at *
        generalize leadB bs len k = lb at *
        generalize rowL bs len k = rl at *
        obtain ⟨hx0, hx1⟩ := hxb
        by_cases hE : ee = 0
        · subst hE
          have hsplit : (tb = false) ∨ (tb = true ∧ gl < 0) ∨ (tb = true ∧ ¬ gl < 0 ∧ (len : Int) ≤ gl) ∨ (tb = true ∧ ¬ gl < 0 ∧ ¬ (len : Int) ≤ gl) := by
            cases tb
            · exact Or.inl rfl
            · by_cases h1 : gl < 0
              · exact Or.inr (Or.inl ⟨rfl, h1⟩)
              · by_cases h2 : (len : Int) ≤ gl
                · exact Or.inr (Or.inr (Or.inl ⟨rfl, h1, h2⟩))
                · exact Or.inr (Or.inr (Or.inr ⟨rfl, h1, h2⟩))
          rcases hsplit with rfl | ⟨rfl, e1⟩ | ⟨rfl, e1, e2⟩ | ⟨rfl, e1, e2⟩
          · skip
            have htd : td = true := by rw [HIS.out rfl]; simp
            have HL := Lib.hid (HLI.out htd)
            have HLB := Lib.hid (HLD.out htd)
            clear htd HLI HLD HIS HBAD HNR HSK HIT
            go_wp2_with fail
            go_quiet (fail)
            obtain ⟨w1, hw1, hi1⟩ := HQ.out nq
            rw [← hw1]
            have HI1 := Lib.hid hi1
            clear hi1 hw1 HQ HI c0 c1
            go_wp2_with (first | (go_at_call 19; refine (HDE.out _).mono ?_; rintro e W2 ⟨rfl, hb2⟩; have HI2 := Lib.hid (HI1.out.next hb2); have HI2b := Lib.hid (HI2.out.next (oalloc W2 (.cells #[.int .i64 d0, .int .i64 d1, .int .i64 d2, .int .i64 d3] 24))); clear hb2) | (go_at_call 8; refine (HTO.out _).mono ?_; rintro e W3 ⟨rfl, hb3⟩; have HI3 := Lib.hid (HI2b.out.next hb3); have k0 := (hb3.block W2.heap.size (by simp)).trans (blk_new W2 _ _); have HK0 := Lib.hid k0; have q0 := cell_of_block (i := 0) k0 rfl; have q1 := cell_of_block (i := 1) k0 rfl; have q2 := cell_of_block (i := 2) k0 rfl; have q3 := cell_of_block (i := 3) k0 rfl; clear hb3 k0) | (go_at_call 10; refine (HL.out _ HI3.out.bel).mono ?_; rintro e W4 ⟨rfl, hb4⟩; have HI4 := Lib.hid (HI3.out.next hb4); clear hb4) | (at_builtin; refine wpList_append_own _ rfl _ _ 46 rfl w.heap.size 9 i0 _ 1 16 Tryd.underlying46 hi hz0 hz1 hz2 rfl (by decide) _ _ _ rfl (HI4.out.own.alloc _) ⟨W4.heap.size, 0, none⟩ 1 1 [.string ⟨rl.toArray⟩] rfl rfl (newS _ _ _) (oneS _) h63 hb16 (by simp; have := HI4.out.bel.size; omega) ?_) | go_in)
            intro v' W5 hown5 hgrow _
            have HI9 := Lib.hid (HSKP.out _ _ _ HLB.out (HAP.out _ _ _ _ (HI4.out.next (oalloc _ _)) hown5 hgrow))
            clear hown5 hgrow
            go_wp2
            exact ⟨⟨k + 1, a + 2, by go_num, HA2, ⟨by omega, by omega⟩, HI9⟩, by simpa [intOf] using HM.out⟩
          · skip
            have htd : td = false := by rw [HIS.out rfl]; simp [e1]
            have hcat := HNR.out htd
            have hlb := HSK.out htd
            have HLB := Lib.hid hlb
            clear htd hlb HLI HPU HLD HIS HBAD HNR HSK
            go_wp2_with fail
            go_quiet (fail)
            obtain ⟨w1, hw1, hi1⟩ := HQ.out nq
            rw [← hw1]
            have HI1 := Lib.hid hi1
            clear hi1 hw1 HQ HI c0 c1
            go_wp2_with (first | (go_at_call 19; refine (HDE.out _).mono ?_; rintro e W2 ⟨rfl, hb2⟩; have HI2 := Lib.hid (HI1.out.next hb2); have HI2b := Lib.hid (HI2.out.next (oalloc W2 (.cells #[.int .i64 d0, .int .i64 d1, .int .i64 d2, .int .i64 d3] 24))); clear hb2) | (go_at_call 8; refine (HTO.out _).mono ?_; rintro e W3 ⟨rfl, hb3⟩; have HI3 := Lib.hid (HI2b.out.next hb3); clear hb3) | (go_at_call 18; refine (HIT.out _ HI3.out.bel).mono ?_; rintro e W4 ⟨rfl, hb4⟩; have HI4 := Lib.hid (HI3.out.next hb4); clear hb4) | (at_builtin; refine wpList_append_own _ rfl _ _ 46 rfl w.heap.size 9 i0 _ 1 16 Tryd.underlying46 hi hz0 hz1 hz2 rfl (by decide) _ _ _ rfl (HI4.out.own.alloc _) ⟨W4.heap.size, 0, none⟩ 1 1 [.string ⟨rl.toArray⟩] rfl rfl (newS _ _ _) (oneS _) h63 hb16 (by simp; have := HI4.out.bel.size; omega) ?_) | go_in)
            intro v' W5 hown5 hgrow _
            have HI9 := Lib.hid (HSKP.out _ _ _ HLB.out (HAP.out _ _ _ _ (HI4.out.next (oalloc _ _)) hown5 hgrow))
            clear hown5 hgrow
            go_wp2
            exact ⟨⟨k + 1, a + 2, by go_num, HA2, ⟨by omega, by omega⟩, HI9⟩, by simpa [intOf] using HM.out⟩
          · skip
            have htd : td = false := by rw [HIS.out rfl]; simp [e2]
            have hcat := HNR.out htd
            have hlb := HSK.out htd
            have HLB := Lib.hid hlb
            clear htd hlb HLI HPU HLD HIS HBAD HNR HSK
            go_wp2_with fail
            go_quiet (fail)
            obtain ⟨w1, hw1, hi1⟩ := HQ.out nq
            rw [← hw1]
            have HI1 := Lib.hid hi1
            clear hi1 hw1 HQ HI c0 c1
            go_wp2_with (first | (go_at_call 19; refine (HDE.out _).mono ?_; rintro e W2 ⟨rfl, hb2⟩; have HI2 := Lib.hid (HI1.out.next hb2); have HI2b := Lib.hid (HI2.out.next (oalloc W2 (.cells #[.int .i64 d0, .int .i64 d1, .int .i64 d2, .int .i64 d3] 24))); clear hb2) | (go_at_call 8; refine (HTO.out _).mono ?_; rintro e W3 ⟨rfl, hb3⟩; have HI3 := Lib.hid (HI2b.out.next hb3); clear hb3) | (go_at_call 18; refine (HIT.out _ HI3.out.bel).mono ?_; rintro e W4 ⟨rfl, hb4⟩; have HI4 := Lib.hid (HI3.out.next hb4); clear hb4) | (at_builtin; refine wpList_append_own _ rfl _ _ 46 rfl w.heap.size 9 i0 _ 1 16 Tryd.underlying46 hi hz0 hz1 hz2 rfl (by decide) _ _ _ rfl (HI4.out.own.alloc _) ⟨W4.heap.size, 0, none⟩ 1 1 [.string ⟨rl.toArray⟩] rfl rfl (newS _ _ _) (oneS _) h63 hb16 (by simp; have := HI4.out.bel.size; omega) ?_) | go_in)
            intro v' W5 hown5 hgrow _
            have HI9 := Lib.hid (HSKP.out _ _ _ HLB.out (HAP.out _ _ _ _ (HI4.out.next (oalloc _ _)) hown5 hgrow))
            clear hown5 hgrow
            go_wp2
            exact ⟨⟨k + 1, a + 2, by go_num, HA2, ⟨by omega, by omega⟩, HI9⟩, by simpa [intOf] using HM.out⟩
          · have HE1 : Hid (0 ≤ gl ∧ gl < len) := ⟨by omega, by omega⟩
            have htd : td = true := by rw [HIS.out rfl]; simp [e1, e2]
            have HL := Lib.hid (HLI.out htd)
            have HLB := Lib.hid (HLD.out htd)
            clear htd HLI HLD HIS HBAD HNR HSK HIT
            go_wp2_with fail
            go_quiet (fail)
            obtain ⟨w1, hw1, hi1⟩ := HQ.out nq
            rw [← hw1]
            have HI1 := Lib.hid hi1
            clear hi1 hw1 HQ HI c0 c1
            go_wp2_with (first | (go_at_call 19; refine (HDE.out _).mono ?_; rintro e W2 ⟨rfl, hb2⟩; have HI2 := Lib.hid (HI1.out.next hb2); have HI2b := Lib.hid (HI2.out.next (oalloc W2 (.cells #[.int .i64 d0, .int .i64 d1, .int .i64 d2, .int .i64 d3] 24))); clear hb2) | (go_at_call 8; refine (HTO.out _).mono ?_; rintro e W3 ⟨rfl, hb3⟩; have HI3 := Lib.hid (HI2b.out.next hb3); obtain ⟨W6, hrun, hi6, hg6⟩ := HPU.out _ HLB.out HE1.out.1 HE1.out.2 HI3.out; have k6 := up_block hg6 ((hb3.block W2.heap.size (by simp)).trans (blk_new W2 _ _)) (Nat.ne_of_gt HI2.out.mlt); have q0 := cell_of_block (i := 0) k6 rfl; have q1 := cell_of_block (i := 1) k6 rfl; have q2 := cell_of_block (i := 2) k6 rfl; have q3 := cell_of_block (i := 3) k6 rfl; have HI6 := Lib.hid hi6; clear hb3 k6 hi6 hg6) | (go_at_call 10; refine (HL.out _ HI6.out.bel).mono ?_; rintro e W4 ⟨rfl, hb4⟩; have HI4 := Lib.hid (HI6.out.next hb4); clear hb4) | (at_builtin; refine wpList_append_own _ rfl _ _ 46 rfl w.heap.size 9 i0 _ 1 16 Tryd.underlying46 hi hz0 hz1 hz2 rfl (by decide) _ _ _ rfl (HI4.out.own.alloc _) ⟨W4.heap.size, 0, none⟩ 1 1 [.string ⟨rl.toArray⟩] rfl rfl (newS _ _ _) (oneS _) h63 hb16 (by simp; have := HI4.out.bel.size; omega) ?_) | go_in)
            intro v' W5 hown5 hgrow _
            have HI9 := Lib.hid (HAP.out _ _ _ _ (HI4.out.next (oalloc _ _)) hown5 hgrow)
            clear hown5 hgrow
            go_wp2
            exact ⟨⟨k + 1, a + 2, by go_num, HA2, ⟨by omega, by omega⟩, HI9⟩, by simpa [intOf] using HM.out⟩
        · have hEb : (ee == 0) = false := by simp [hE]
          have hEn : (ee != 0) = true := by simp [hE]
          have htd : td = false := HBAD.out hE
          have hcat := HNR.out htd
          have hlb := HSK.out htd
          have HLB := Lib.hid hlb
          clear htd hlb HLI HPU HLD HIS HBAD HNR HSK
          go_wp2_with fail
          go_quiet (fail)
          obtain ⟨w1, hw1, hi1⟩ := HQ.out nq
          rw [← hw1]
          have HI1 := Lib.hid hi1
          clear hi1 hw1 HQ HI c0 c1
          go_wp2_with (first | (go_at_call 19; refine (HDE.out _).mono ?_; rintro e W2 ⟨rfl, hb2⟩; have HI2 := Lib.hid (HI1.out.next hb2); have HI2b := Lib.hid (HI2.out.next (oalloc W2 (.cells #[.int .i64 d0, .int .i64 d1, .int .i64 d2, .int .i64 d3] 24))); clear hb2) | (go_at_call 8; refine (HTO.out _).mono ?_; rintro e W3 ⟨rfl, hb3⟩; have HI3 := Lib.hid (HI2b.out.next hb3); clear hb3) | (go_at_call 18; refine (HIT.out _ HI3.out.bel).mono ?_; rintro e W4 ⟨rfl, hb4⟩; have HI4 := Lib.hid (HI3.out.next hb4); clear hb4) | (at_builtin; refine wpList_append_own _ rfl _ _ 46 rfl w.heap.size 9 i0 _ 1 16 Tryd.underlying46 hi hz0 hz1 hz2 rfl (by decide) _ _ _ rfl (HI4.out.own.alloc _) ⟨W4.heap.size, 0, none⟩ 1 1 [.string ⟨rl.toArray⟩] rfl rfl (newS _ _ _) (oneS _) h63 hb16 (by simp; have := HI4.out.bel.size; omega) ?_) | go_in)
          intro v' W5 hown5 hgrow _
          have HI9 := Lib.hid (HSKP.out _ _ _ HLB.out (HAP.out _ _ _ _ (HI4.out.next (oalloc _ _)) hown5 hgrow))
          clear hown5 hgrow
          go_wp2
          exact ⟨⟨k + 1, a + 2, by go_num, HA2, ⟨by omega, by omega⟩, HI9⟩, by simpa [intOf] using HM.out⟩
      · have hla : (a + 1 == (len : Int)) = true := by have := HA.out; simp; omega
        have hat : a.toNat = 2 * k := by have := HA.out; omega
        have c0 : wr.cell? ⟨b, off + a.toNat, none⟩ = some (.int .u8 (bs (2 * k))) := by rw [hat]; exact (HI.out.bel.cell (p := ⟨b, off + 2 * k, none⟩) hbw).trans (HBC.out _ hk)
        have hby := HBY.out (2 * k)
        obtain ⟨hby0, hby1⟩ := hby
        have HIT := Lib.hid (itoa_any (bs (2 * k)) (by omega) (by omega) wr (HDL.out _ HI.out.bel))
        have hil := itoa_few (bs (2 * k)) (by omega) (by omega)
        have HTD := Lib.hid (told_lone (bs := bs) hl)
        have HRL : Hid (rowL bs len k = [46, 98, 121, 116, 101, 32] ++ Lib.itoa (bs (2 * k))) := by unfold Hid rowL; rw [if_neg (by rw [HTD.out]; simp), if_neg hl]
        have hcat : (⟨#[46, 98, 121, 116, 101, 32]⟩ : ByteArray) ++ ⟨(Lib.itoa (bs (2 * k))).toArray⟩ = ⟨(rowL bs len k).toArray⟩ := by rw [HRL.out]; exact bcat [46, 98, 121, 116, 101, 32] _
        have hsl : ¬ 9223372036854775807 < 6 + (Lib.itoa (bs (2 * k))).length := by omega
        have HSK := Lib.hid (show leadB bs len k = false by unfold leadB; rw [HTD.out]; rfl)
        have h63 : k + 1 ≤ maxLen := by unfold maxLen; omega
        have hb16 : (k + 1) * 16 ≤ 140737488355328 := by omega
        have hbs : wrap64 (bs (2 * k)) = bs (2 * k) := by unfold wrap64; omega
        clear HRL hat
        generalize Lib.itoa (bs (2 * k)) = il at *
        generalize bs (2 * k) = bv at *
        generalize hrl : rowL bs len k = rl at *
        go_wp2_with (first | (go_at_call 18; refine HIT.out.mono ?_; rintro e W1 ⟨rfl, hb1⟩; have HI1 := Lib.hid (HI.out.next hb1); clear hb1) | (at_builtin; refine wpList_append_own _ rfl _ _ 46 rfl w.heap.size 9 i0 _ 1 16 Tryd.underlying46 hi hz0 hz1 hz2 rfl (by decide) _ _ _ rfl (HI1.out.own.alloc _) ⟨W1.heap.size, 0, none⟩ 1 1 [.string ⟨rl.toArray⟩] rfl rfl (newS _ _ _) (oneS _) h63 hb16 (by simp; have := HI1.out.bel.size; omega) ?_) | go_in)
        intro v' W3 hown3 hgrow _
        have HI3 : Hid (RT bs len w w.heap.size (k + 1) (k + 1) v' W3) := ((HI1.out.next (oalloc _ _)).app (by rw [hrl]; exact hown3) hgrow).skip HSK.out
        have hhk : k + 1 = h := by have := HH.out; omega
        rw [hhk] at HI3
        clear hhk hown3 hgrow HI1 HI HIT hcat hsl h63 hb16 c0 hbs hil HSK HTD hrl HXG HBC
        obtain ⟨ya, yc, rfl, hyg⟩ := HI3.out.shape
        have HYG := Lib.hid hyg
        clear hyg
        go_wp2_with fail
        go_loopw [11, 92] (fun s i W => ∃ j : Nat, j ≤ h ∧ i = .int .i64 j ∧ s = .string ⟨(textTo bs len j).toArray⟩ ∧ Hid (RT bs len w w.heap.size h h (.slice ya h yc) W)) (fun _ i _ => h - (intOf i).toNat)
        case atStart => exact ⟨0, Nat.zero_le _, rfl, rfl, HI3⟩
        case round =>
          obtain ⟨j, hj, rfl, rfl, HJ⟩ := hrel
          clear HI3
          by_cases hjl : j < h
          · have hji : (j : Int) < h := by omega
            obtain ⟨g, rfl, hgg⟩ := HYG.out (by omega)
            have c1 : wr.cell? ⟨g, j, none⟩ = some (.string ⟨(rowL bs len j).toArray⟩) := HJ.out.cell j hjl
            have hlk := HJ.out.look j (2 * j) rfl (by omega)
            have HPX := Lib.hid (rhex_any (2 * j) wr (by omega) (by omega) (HDL.out _ HJ.out.bel).tz)
            have HTS := Lib.hid (HTX.out j)
            have hrl := HRB.out j
            have htl : (textTo bs len j).length ≤ 200000000 := by have := HTF.out j; omega
            have hpl := placeL_few (2 * j)
            have HJN := Lib.hid (fun W' => HJ.out.next (W' := W'))
            have HM : Hid (h - (j + 1) < h - j) := by unfold Hid; omega
            generalize rowL bs len j = rl at *
            have HT2 : Hid (∀ t, t = textTo bs len (j + 1) → Value.string ⟨t.toArray⟩ = Value.string ⟨(textTo bs len (j + 1)).toArray⟩) := fun t ht => by rw [ht]
            have HPE : Hid (placeL (2 * j) = 120 :: hexS (2 * j)) := rfl
            rw [← HPE.out] at HPX
            clear HPE
            generalize placeL (2 * j) = pl at *
            generalize textTo bs len j = tx at *
            cases hled : ledB bs len h j
            · rw [hled] at HTS hlk
              rw [if_neg (by simp), List.append_nil] at HTS
              obtain ⟨l1, hl1⟩ : ∃ y, y = tx ++ rl := ⟨_, rfl⟩
              have hl1l : l1.length ≤ 310000000 := by rw [hl1]; simp; omega
              have cl1 : (⟨tx.toArray⟩ : ByteArray) ++ ⟨rl.toArray⟩ = ⟨l1.toArray⟩ := by rw [hl1]; exact bcat tx rl
              have sl1 : ¬ 9223372036854775807 < tx.length + rl.length := by omega
              obtain ⟨l2, hl2⟩ : ∃ y, y = l1 ++ [10] := ⟨_, rfl⟩
              have hl2l : l2.length ≤ 320000000 := by rw [hl2]; simp; omega
              have cl2 : (⟨l1.toArray⟩ : ByteArray) ++ ⟨#[10]⟩ = ⟨l2.toArray⟩ := by rw [hl2]; exact bcat l1 [10]
              have sl2 : ¬ 9223372036854775807 < l1.length + 1 := by omega
              have HE : Hid (l2 = textTo bs len (j + 1)) := by unfold Hid; rw [HTS.out, hl2, hl1]; simp
              clear hl1 hl2 HTS
              go_wp2
              exact ⟨⟨j + 1, by omega, by go_num, HT2.out _ HE.out, HJ⟩, by simpa [intOf] using HM.out⟩
            · rw [hled] at HTS hlk
              rw [if_pos rfl] at HTS
              obtain ⟨l1, hl1⟩ : ∃ y, y = tx ++ pl := ⟨_, rfl⟩
              have hl1l : l1.length ≤ 310000000 := by rw [hl1]; simp; omega
              have cl1 : (⟨tx.toArray⟩ : ByteArray) ++ ⟨pl.toArray⟩ = ⟨l1.toArray⟩ := by rw [hl1]; exact bcat tx pl
              have sl1 : ¬ 9223372036854775807 < tx.length + pl.length := by omega
              obtain ⟨l2, hl2⟩ : ∃ y, y = l1 ++ [58, 10] := ⟨_, rfl⟩
              have hl2l : l2.length ≤ 320000000 := by rw [hl2]; simp; omega
              have cl2 : (⟨l1.toArray⟩ : ByteArray) ++ ⟨#[58, 10]⟩ = ⟨l2.toArray⟩ := by rw [hl2]; exact bcat l1 [58, 10]
              have sl2 : ¬ 9223372036854775807 < l1.length + 2 := by omega
              obtain ⟨l3, hl3⟩ : ∃ y, y = l2 ++ rl := ⟨_, rfl⟩
              have hl3l : l3.length ≤ 330000000 := by rw [hl3]; simp; omega
              have cl3 : (⟨l2.toArray⟩ : ByteArray) ++ ⟨rl.toArray⟩ = ⟨l3.toArray⟩ := by rw [hl3]; exact bcat l2 rl
              have sl3 : ¬ 9223372036854775807 < l2.length + rl.length := by omega
              obtain ⟨l4, hl4⟩ : ∃ y, y = l3 ++ [10] := ⟨_, rfl⟩
              have hl4l : l4.length ≤ 340000000 := by rw [hl4]; simp; omega
              have cl4 : (⟨l3.toArray⟩ : ByteArray) ++ ⟨#[10]⟩ = ⟨l4.toArray⟩ := by rw [hl4]; exact bcat l3 [10]
              have sl4 : ¬ 9223372036854775807 < l3.length + 1 := by omega
              have HE : Hid (l4 = textTo bs len (j + 1)) := by unfold Hid; rw [HTS.out, hl4, hl3, hl2, hl1]; simp
              clear hl1 hl2 hl3 hl4 HTS
              go_wp2_with (first | (go_at_call 20; refine HPX.out.mono ?_; rintro e W5 ⟨rfl, hb5⟩; have HJ5 := Lib.hid (HJN.out _ hb5); clear hb5) | fail)
              exact ⟨⟨j + 1, by omega, by go_num, HT2.out _ HE.out, HJ5⟩, by simpa [intOf] using HM.out⟩
          · obtain rfl : j = h := by omega
            have HB := Lib.hid HJ.out.bel
            go_wp2
            go_ret
            exact ⟨rfl, HB.out⟩
    · obtain rfl : h = k := by have := HA.out; have := HH.out; omega
      obtain ⟨W3, hW3⟩ : ∃ y, y = wr := ⟨_, rfl⟩
      have HI3 : Hid (RT bs len w w.heap.size h h (.slice xa h xc) W3) := by rw [hW3]; exact HI.out
      rw [← hW3]
      clear HI hW3 HA
      go_wp2_with fail
      go_loopw [11, 92] (fun s i W => ∃ j : Nat, j ≤ h ∧ i = .int .i64 j ∧ s = .string ⟨(textTo bs len j).toArray⟩ ∧ Hid (RT bs len w w.heap.size h h (.slice xa h xc) W)) (fun _ i _ => h - (intOf i).toNat)
      case atStart => exact ⟨0, Nat.zero_le _, rfl, rfl, HI3⟩
      case round =>
        obtain ⟨j, hj, rfl, rfl, HJ⟩ := hrel
        clear HI3
        by_cases hjl : j < h
        · have hji : (j : Int) < h := by omega
          obtain ⟨g, rfl, hgg⟩ := HXG.out (by omega)
          have c1 : wr.cell? ⟨g, j, none⟩ = some (.string ⟨(rowL bs len j).toArray⟩) := HJ.out.cell j hjl
          have hlk := HJ.out.look j (2 * j) rfl (by omega)
          have HPX := Lib.hid (rhex_any (2 * j) wr (by omega) (by omega) (HDL.out _ HJ.out.bel).tz)
          have HTS := Lib.hid (HTX.out j)
          have hrl := HRB.out j
          have htl : (textTo bs len j).length ≤ 200000000 := by have := HTF.out j; omega
          have hpl := placeL_few (2 * j)
          have HJN := Lib.hid (fun W' => HJ.out.next (W' := W'))
          have HM : Hid (h - (j + 1) < h - j) := by unfold Hid; omega
          generalize rowL bs len j = rl at *
          have HT2 : Hid (∀ t, t = textTo bs len (j + 1) → Value.string ⟨t.toArray⟩ = Value.string ⟨(textTo bs len (j + 1)).toArray⟩) := fun t ht => by rw [ht]
          have HPE : Hid (placeL (2 * j) = 120 :: hexS (2 * j)) := rfl
          rw [← HPE.out] at HPX
          clear HPE
          generalize placeL (2 * j) = pl at *
          generalize textTo bs len j = tx at *
          cases hled : ledB bs len h j
          · rw [hled] at HTS hlk
            rw [if_neg (by simp), List.append_nil] at HTS
            obtain ⟨l1, hl1⟩ : ∃ y, y = tx ++ rl := ⟨_, rfl⟩
            have hl1l : l1.length ≤ 310000000 := by rw [hl1]; simp; omega
            have cl1 : (⟨tx.toArray⟩ : ByteArray) ++ ⟨rl.toArray⟩ = ⟨l1.toArray⟩ := by rw [hl1]; exact bcat tx rl
            have sl1 : ¬ 9223372036854775807 < tx.length + rl.length := by omega
            obtain ⟨l2, hl2⟩ : ∃ y, y = l1 ++ [10] := ⟨_, rfl⟩
            have hl2l : l2.length ≤ 320000000 := by rw [hl2]; simp; omega
            have cl2 : (⟨l1.toArray⟩ : ByteArray) ++ ⟨#[10]⟩ = ⟨l2.toArray⟩ := by rw [hl2]; exact bcat l1 [10]
            have sl2 : ¬ 9223372036854775807 < l1.length + 1 := by omega
            have HE : Hid (l2 = textTo bs len (j + 1)) := by unfold Hid; rw [HTS.out, hl2, hl1]; simp
            clear hl1 hl2 HTS
            go_wp2
            exact ⟨⟨j + 1, by omega, by go_num, HT2.out _ HE.out, HJ⟩, by simpa [intOf] using HM.out⟩
          · rw [hled] at HTS hlk
            rw [if_pos rfl] at HTS
            obtain ⟨l1, hl1⟩ : ∃ y, y = tx ++ pl := ⟨_, rfl⟩
            have hl1l : l1.length ≤ 310000000 := by rw [hl1]; simp; omega
            have cl1 : (⟨tx.toArray⟩ : ByteArray) ++ ⟨pl.toArray⟩ = ⟨l1.toArray⟩ := by rw [hl1]; exact bcat tx pl
            have sl1 : ¬ 9223372036854775807 < tx.length + pl.length := by omega
            obtain ⟨l2, hl2⟩ : ∃ y, y = l1 ++ [58, 10] := ⟨_, rfl⟩
            have hl2l : l2.length ≤ 320000000 := by rw [hl2]; simp; omega
            have cl2 : (⟨l1.toArray⟩ : ByteArray) ++ ⟨#[58, 10]⟩ = ⟨l2.toArray⟩ := by rw [hl2]; exact bcat l1 [58, 10]
            have sl2 : ¬ 9223372036854775807 < l1.length + 2 := by omega
            obtain ⟨l3, hl3⟩ : ∃ y, y = l2 ++ rl := ⟨_, rfl⟩
            have hl3l : l3.length ≤ 330000000 := by rw [hl3]; simp; omega
            have cl3 : (⟨l2.toArray⟩ : ByteArray) ++ ⟨rl.toArray⟩ = ⟨l3.toArray⟩ := by rw [hl3]; exact bcat l2 rl
            have sl3 : ¬ 9223372036854775807 < l2.length + rl.length := by omega
            obtain ⟨l4, hl4⟩ : ∃ y, y = l3 ++ [10] := ⟨_, rfl⟩
            have hl4l : l4.length ≤ 340000000 := by rw [hl4]; simp; omega
            have cl4 : (⟨l3.toArray⟩ : ByteArray) ++ ⟨#[10]⟩ = ⟨l4.toArray⟩ := by rw [hl4]; exact bcat l3 [10]
            have sl4 : ¬ 9223372036854775807 < l3.length + 1 := by omega
            have HE : Hid (l4 = textTo bs len (j + 1)) := by unfold Hid; rw [HTS.out, hl4, hl3, hl2, hl1]; simp
            clear hl1 hl2 hl3 hl4 HTS
            go_wp2_with (first | (go_at_call 20; refine HPX.out.mono ?_; rintro e W5 ⟨rfl, hb5⟩; have HJ5 := Lib.hid (HJN.out _ hb5); clear hb5) | fail)
            exact ⟨⟨j + 1, by omega, by go_num, HT2.out _ HE.out, HJ5⟩, by simpa [intOf] using HM.out⟩
        · obtain rfl : j = h := by omega
          have HB := Lib.hid HJ.out.bel
          go_wp2
          go_ret
          exact ⟨rfl, HB.out⟩

end Go.Proofs.YtgadpimknobljaaDoor
