/- SimStays: the mathematics. SimStays: the walk. PROVED: 'SimStays' answers true for every machine and all numbers that are together of bulk at most 1048576, the arguments read behind the call as they read before it; package isa's variables that the road reads are tied to the program's text. No other condition. -/
import Derived.Test.YtabepbaldadmgaaDoorSnZ
import Derived.Test.YtabepbaldadmgaaDoorPut60
import Derived.Test.YtabepbaldadmgaaDoorSpA
import Derived.Test.YtabepbaldadmgaaDoorIsaLaid
import Derived.Test.YtabepbaldadmgaaDoorTie
import Derived.Test.YtabepbaldadmgaaDoorCards
import Derived.ProofKit
import Derived.LaidMore
import Derived.Lib.SmallJoins
import Derived.OpenShut
import Derived.Stop.Joined
import Derived.Stop.LaidErr
import Derived.ShutString
import Derived.ChangeOld
import Derived.SevenTiedAt
import Derived.SizedLaws
import Derived.HandedShaped
import Derived.Lib.LaidTab
import Derived.Lay
import Derived.Deep.DeepHandedRow
namespace Go.Proofs.YtabepbaldadmgaaDoor
open Go.RowKit Isa

/-- What stands at an offset of the bytes. -/
def halfAt (l : List UInt8) (a : Int) : Int := getTo (bsOf l) l.length a 2
/-- No instruction of the image puts. -/
def NoPut (m : Ma) : Prop := ∀ j : Nat, 2 * j + 2 ≤ m.by'.length → ¬ (decE (halfAt m.by' (2 * (j : Int))) = 0 ∧ dV (halfAt m.by' (2 * (j : Int))) 0 = 25)
theorem noput_fetch {m : Ma} (h : NoPut m) (he : m.base % 2 = 0) {a : Int} (h0 : fetchE m a = 0) : fV m a 0 ≠ 25 := by
  unfold fetchE at h0
  by_cases hh : hasB m a 2 = true
  · rw [if_pos hh] at h0
    obtain ⟨q1, q2, q3⟩ := hasB_in hh
    unfold fV
    rw [if_pos hh]
    have := h ((a - m.base).toNat / 2) (by omega)
    have e : 2 * (((a - m.base).toNat / 2 : Nat) : Int) = a - m.base := by omega
    rw [e] at this
    exact fun h25 => this ⟨h0, h25⟩
  · rw [if_neg hh] at h0
    exact absurd h0 (by decide)
theorem by_ite {l : List UInt8} {a b : Ma} {c : Prop} [Decidable c] (ha : a.by' = l) (hb : b.by' = l) : (if c then a else b).by' = l := by
  by_cases h : c
  · rw [if_pos h]; exact ha
  · rw [if_neg h]; exact hb
theorem plain_by {m : Ma} {op n mm imm at' : Int} (h : op ≠ 25) : (plainM m op n mm imm at').by' = m.by' := by
  unfold plainM
  rw [if_neg h]
  repeat' refine by_ite ?_ ?_
  all_goals rfl
theorem step_by {m : Ma} (h : NoPut m) (he : m.base % 2 = 0) (h0 : stepE m = 0) : (stepM m).by' = m.by' ∧ (stepM m).base = m.base := by
  have hf := stepE_fetch h0
  have pp : (preM m).by' = m.by' ∧ (preM m).base = m.base := by unfold preM; split <;> exact ⟨rfl, rfl⟩
  have hnp : NoPut (preM m) := by unfold NoPut; rw [pp.1]; exact h
  unfold stepM
  split
  · exact ⟨rfl, rfl⟩
  · rename_i hend
    split
    · exact ⟨plain_by (noput_fetch h he hf), (plain_keep { m with st := m.st + 1 } _ _ _ _ _).1⟩
    · rename_i hl
      split
      · exact ⟨rfl, rfl⟩
      · rename_i hb
        have hE : fetchE (preM m) (m.pc + 2) = 0 := by
          unfold stepE at h0
          rw [if_neg (by simp [hf]), if_neg hend, if_neg hl, if_neg hb] at h0
          by_cases h1 : fetchE (preM m) (m.pc + 2) = 0
          · exact h1
          · rw [if_pos h1] at h0
            exact absurd h0 h1
        have h25 := noput_fetch hnp (by rw [pp.2]; exact he) hE
        refine ⟨?_, ?_⟩
        · show (plainM (preM m) _ _ _ _ _).by' = _
          rw [plain_by h25, pp.1]
        · show (plainM (preM m) _ _ _ _ _).base = _
          rw [(plain_keep (preM m) _ _ _ _ _).1, pp.2]
/-- The machine M has come of m in k steps; its image is the same. -/
structure StAt (m : Ma) (k : Nat) (M : Ma) : Prop where
  rn : Runs M k
  sm : M.by' = m.by' ∧ M.base = m.base
theorem StAt.step {m : Ma} {k : Nat} {M : Ma} (h : StAt m k M) (hn : NoPut m) (he : m.base % 2 = 0) (h0 : stepE M = 0) : StAt m (k + 1) (stepM M) := by
  have hnp : NoPut M := by unfold NoPut; rw [h.sm.1]; exact hn
  have := step_by hnp (by rw [h.sm.2]; exact he) h0
  exact ⟨(runs_step h.rn (stepE_fetch h0)).1, this.1.trans h.sm.1, this.2.trans h.sm.2⟩

end Go.Proofs.YtabepbaldadmgaaDoor

namespace Go.Proofs.YtabepbaldadmgaaDoor
open Go.RowKit Isa

/-- The box of the machine that goes on, besides the argument's. -/
structure QS (w : World) (c : Array Value) (sy : List Sy) (q8 : Nat) (M : Ma) (W : World) : Prop where
  ab : AB w c W
  b8 : ∃ cz, W.heap[q8]? = some (.cells cz 29 (0, 0)) ∧ MVn q8 W (.agg cz) M sy
  l8 : w.heap.size < q8
theorem QS.next {w : World} {c : Array Value} {sy : List Sy} {q8 : Nat} {M : Ma} {W W' : World} (h : QS w c sy q8 M W) (hb : Below W.heap.size W W') : QS w c sy q8 M W' := by
  obtain ⟨cz, h1, h2⟩ := h.b8
  exact ⟨h.ab.next hb, ⟨cz, (hb.block _ (Array.getElem?_eq_some_iff.1 h1).1).trans h1, h2.next hb⟩, h.l8⟩
theorem QS.put {w : World} {c : Array Value} {sy : List Sy} {q8 : Nat} {M M' : Ma} {W : World} (h : QS w c sy q8 M W) {cn : Array Value} (hn : MVn q8 W (.agg cn) M' sy) : QS w c sy q8 M' (W.setRow q8 cn) := by
  obtain ⟨cz, h1, h2⟩ := h.b8
  have l8 := h.l8
  exact ⟨⟨below_setRow h.ab.bel (by omega) _, by rw [setRow_other _ _ _ _ (by omega)]; exact h.ab.box⟩, ⟨cn, setRow_heap _ _ _ _ _ _ h1, hn.row cn⟩, h.l8⟩

set_option maxHeartbeats 8000000 in
set_option maxRecDepth 100000 in
theorem stays_any (m : Ma) (sy : List Sy) (v : Value) (num : Int) (w : World) (hv : MV w v m sy) (hL : Laid w) (hM : ArgM m sy) :
    Calls Tryd.prog 5 #[v, .int .i64 num] w fun e w' => e = .returned (.bool true) ∧ Below w.heap.size w w' := by
  have hv0 := hv
  obtain ⟨ba, bc, s0, s2, ta, tc, rfl, hB, hT, hS⟩ := hv
  obtain ⟨V, hV⟩ : ∃ V, V = w.alloc (.cells (mC m ba bc (.slice s0 sy.length s2) ta tc) 29) := ⟨_, rfl⟩
  have hA := AB.start w (mC m ba bc (.slice s0 sy.length s2) ta tc)
  rw [← hV] at hA
  have HA := Lib.hid hA
  have HAL := Lib.hid (alive_any V (hL.below hA.bel hL.sz))
  have HRI : Hid (∀ X, Calls Tryd.prog 6 #[.agg (mC m ba bc (.slice s0 sy.length s2) ta tc)] X fun e w' => ∃ b, e = .returned (.bool b) ∧ Below X.heap.size X w' ∧ (b = true → Runs m 0)) := fun X => (right_any m ba bc s0 sy.length s2 ta tc X).mono fun _ _ ⟨b, h1, h2, h3⟩ => ⟨b, h1, h2, fun hb => hM.runs (h3 hb)⟩
  have hsl : sy.length * 24 ≤ 140737488355328 := by have := hM.sl; omega
  have hbl := hM.bl
  have HARG : Hid (∀ X, Below w.heap.size w X → MV X (.agg (mC m ba bc (.slice s0 sy.length s2) ta tc)) m sy ∧ Laid X ∧ BRd X ba m.by' ∧ SrcOf X s0 sy.length (scells sy)) := fun X hX => ⟨hv0.next hX, hL.below hX hL.sz, hB.next hX, hS.below hX (Nat.le_refl _)⟩
  have HV := Lib.hid hV.symm
  have HSY : Hid (sy.length ≤ 140737488355328) := by unfold Hid; have := hM.sl; omega
  clear hV hA hL hv0 hM
  by_cases hc : num < 0 ∨ 200 < num
  · have key : num < 0 ∨ (¬ num < 0 ∧ 200 < num) := by omega
    clear hc
    rcases key with k1 | ⟨k1, k2⟩
    all_goals
      go_enter Tryd.func5, Tryd.ntmps5
      go_upto_region 1 with fail
      rw [HV.out]
      clear HV
      go_wp2_with (first | (go_at_call 17; refine HAL.out.mono ?_; rintro e W1 ⟨rfl, hb1⟩; have HA1 := Lib.hid (HA.out.next hb1); clear hb1) | (refine wpList_load_row rfl 29 _ rfl w.heap.size rfl 29 (mC m ba bc (.slice s0 sy.length s2) ta tc) (0, 0) _ HA1.out.box Tryd.underlying29 rfl (mSize _ _ _ _ _ _) ?_) | (go_at_call 6; refine (HRI.out _).mono ?_; rintro e W2 ⟨b, rfl, hb2, hR2⟩; have HA2 := Lib.hid (HA1.out.next hb2); clear hb2 hR2; cases b) | fail)
      all_goals
        go_ret
        exact ⟨rfl, HA2.out.bel⟩
  · obtain ⟨n, hn⟩ : ∃ n : Nat, (n : Int) = num := ⟨num.toNat, by omega⟩
    have hn2 : n ≤ 200 := by omega
    clear hc
    subst hn
    have k1 : ¬ (n : Int) < 0 := by omega
    have k2 : ¬ (200 : Int) < (n : Int) := by omega
    have d1 : decide ((n : Int) < 0) = false := decide_eq_false k1
    have d2 : decide ((200 : Int) < (n : Int)) = false := decide_eq_false k2
    go_enter Tryd.func5, Tryd.ntmps5
    go_upto_region 1 with fail
    rw [HV.out]
    clear HV
    go_upto_region 5 with (first | (go_at_call 17; refine HAL.out.mono ?_; rintro e W1 ⟨rfl, hb1⟩; have HA1 := Lib.hid (HA.out.next hb1); clear hb1) | (refine wpList_load_row rfl 29 _ rfl w.heap.size rfl 29 (mC m ba bc (.slice s0 sy.length s2) ta tc) (0, 0) _ HA1.out.box Tryd.underlying29 rfl (mSize _ _ _ _ _ _) ?_) | (go_at_call 6; refine (HRI.out _).mono ?_; rintro e W2 ⟨b, rfl, hb2, hR2⟩; have HA2 := Lib.hid (HA1.out.next hb2); clear hb2; cases b) | fail)
    · clear hR2
      go_wp2
      go_ret
      exact ⟨rfl, HA2.out.bel⟩
    · have HR := Lib.hid (hR2 (by first | rfl | trivial))
      clear hR2 HAL HRI HA HA1 k1 k2 d1 d2 hB hT hS
      go_wp2
      go_loopw [5] (fun i wr => ∃ j : Nat, 2 * j ≤ m.by'.length + 1 ∧ i = .int .i64 (2 * (j : Int)) ∧ Hid (AB w (mC m ba bc (.slice s0 sy.length s2) ta tc) wr) ∧ Hid (∀ k : Nat, k < j → ¬ (decE (halfAt m.by' (2 * (k : Int))) = 0 ∧ dV (halfAt m.by' (2 * (k : Int))) 0 = 25))) (fun i _ => m.by'.length + 2 - (intOf i).toNat)
      case atStart => exact ⟨0, by omega, rfl, HA2, fun k hk => absurd hk (by omega)⟩
      case round =>
        obtain ⟨j, hj, rfl, HAB, HNP⟩ := hrel
        clear HA2
        obtain ⟨_, _, _, x19, x20, _, _, _⟩ := mcs HAB.out.box
        by_cases hlt : 2 * j + 2 ≤ m.by'.length
        · have hlt1 : 2 * (j : Int) + 2 ≤ m.by'.length := by omega
          have HG : Hid (∀ X, Below w.heap.size w X → Calls Tryd.prog 19 #[.slice ba m.by'.length bc, .int .i64 (2 * (j : Int)), .int .i64 2] X fun e w' => e = .returned (.int .i64 (halfAt m.by' (2 * (j : Int)))) ∧ X = w') := fun X hX => (rget m ba bc (2 * (j : Int)) 2 X (HARG.out X hX).2.2.1 (by omega) (by omega) (by omega) (by omega) (by omega)).mono fun _ _ ⟨h1, h2⟩ => ⟨h1, h2.symm⟩
          have HDC : Hid (∀ X, Calls Tryd.prog 18 #[.int .i64 (halfAt m.by' (2 * (j : Int)))] X fun e w' => e = .returned (.tuple #[.agg #[.int .i64 (dV (halfAt m.by' (2 * (j : Int))) 0), .int .i64 (dV (halfAt m.by' (2 * (j : Int))) 1), .int .i64 (dV (halfAt m.by' (2 * (j : Int))) 2), .int .i64 (dV (halfAt m.by' (2 * (j : Int))) 3)], .int .i64 (decE (halfAt m.by' (2 * (j : Int))))]) ∧ Below X.heap.size X w') := fun X => by
            have := rDec_any (halfAt m.by' (2 * (j : Int))) X
            rw [(dV_all (halfAt m.by' (2 * (j : Int)))).1] at this
            exact this
          have HNX : Hid (¬ (decE (halfAt m.by' (2 * (j : Int))) = 0 ∧ dV (halfAt m.by' (2 * (j : Int))) 0 = 25) → ∀ k : Nat, k < j + 1 → ¬ (decE (halfAt m.by' (2 * (k : Int))) = 0 ∧ dV (halfAt m.by' (2 * (k : Int))) 0 = 25)) := fun h k hk => by
            by_cases e : k = j
            · rw [e]; exact h
            · exact HNP.out k (by omega)
          clear HNP
          generalize decE (halfAt m.by' (2 * (j : Int))) = ee at HDC HNX
          generalize dV (halfAt m.by' (2 * (j : Int))) 0 = d0 at HDC HNX
          generalize dV (halfAt m.by' (2 * (j : Int))) 1 = d1 at HDC
          generalize dV (halfAt m.by' (2 * (j : Int))) 2 = d2 at HDC
          generalize dV (halfAt m.by' (2 * (j : Int))) 3 = d3 at HDC
          generalize halfAt m.by' (2 * (j : Int)) = xx at HDC HG
          by_cases q1 : ee = 0
          · have q1b : (ee == 0) = true := by simpa using q1
            by_cases q2 : d0 = 25
            · have q2b : (d0 == 25) = true := by simpa using q2
              clear q1 q2 HNX
              go_wp2_with (first | (go_at_call 19; refine (HG.out _ HAB.out.bel).mono ?_; rintro e w' ⟨rfl, rfl⟩) | (go_at_call 18; refine (HDC.out _).mono ?_; rintro e W3 ⟨rfl, hb3⟩; have HAB3 := Lib.hid (HAB.out.next (hb3.trans ((oalloc W3 (.cells #[.int .i64 d0, .int .i64 d1, .int .i64 d2, .int .i64 d3] 45)).mono hb3.size))); clear hb3) | fail)
              go_ret
              exact ⟨rfl, HAB3.out.bel⟩
            · have q2b : (d0 == 25) = false := by simpa using q2
              have HNY := Lib.hid (HNX.out (fun h => q2 h.2))
              clear q1 q2 HNX
              go_wp2_with (first | (go_at_call 19; refine (HG.out _ HAB.out.bel).mono ?_; rintro e w' ⟨rfl, rfl⟩) | (go_at_call 18; refine (HDC.out _).mono ?_; rintro e W3 ⟨rfl, hb3⟩; have HAB3 := Lib.hid (HAB.out.next (hb3.trans ((oalloc W3 (.cells #[.int .i64 d0, .int .i64 d1, .int .i64 d2, .int .i64 d3] 45)).mono hb3.size))); clear hb3) | fail)
              exact ⟨⟨j + 1, by omega, by rw [show (2 * ((j + 1 : Nat) : Int)) = 2 * (j : Int) + 2 by omega], HAB3, HNY⟩, by simp [intOf]; omega⟩
          · have q1b : (ee == 0) = false := by simpa using q1
            have HNY := Lib.hid (HNX.out (fun h => q1 h.1))
            clear q1 HNX
            go_wp2_with (first | (go_at_call 19; refine (HG.out _ HAB.out.bel).mono ?_; rintro e w' ⟨rfl, rfl⟩) | (go_at_call 18; refine (HDC.out _).mono ?_; rintro e W3 ⟨rfl, hb3⟩; have HAB3 := Lib.hid (HAB.out.next (hb3.trans ((oalloc W3 (.cells #[.int .i64 d0, .int .i64 d1, .int .i64 d2, .int .i64 d3] 45)).mono hb3.size))); clear hb3) | fail)
            exact ⟨⟨j + 1, by omega, by rw [show (2 * ((j + 1 : Nat) : Int)) = 2 * (j : Int) + 2 by omega], HAB3, HNY⟩, by simp [intOf]; omega⟩
        · have hlt1 : ¬ 2 * (j : Int) + 2 ≤ m.by'.length := by omega
          have HNO : Hid (NoPut m) := fun k hk => HNP.out k (by omega)
          have hbase := HR.out.b0
          clear HNP
          by_cases hev : m.base % 2 = 0
          · have hev2 : (m.base % 2 != 0) = false := by rw [hev]; rfl
            have HEV := Lib.hid hev
            clear hev
            have HN8 := Lib.hid (blk_new wr #[.int .i64 0, .int .i64 0, .int .i64 0, .int .i64 0, .int .i64 0, .int .i64 0, .int .i64 0, .int .i64 0, .int .i64 0, .int .i64 0, .int .i64 0, .int .i64 0, .int .i64 0, .int .i64 0, .int .i64 0, .int .i64 0, .bool false, .int .i64 0, .int .i64 0, .int .i64 0, .slice none 0 0, .slice none 0 0, .slice none 0 0, .int .i64 0] 29)
            go_wp2_with (first | (refine wpList_load_row rfl 29 _ rfl w.heap.size rfl 29 (mC m ba bc (.slice s0 sy.length s2) ta tc) (0, 0) _ HAB.out.box Tryd.underlying29 rfl (mSize _ _ _ _ _ _) ?_) | (refine wpList_store_row rfl 29 _ _ rfl wr.heap.size (mC m ba bc (.slice s0 sy.length s2) ta tc) rfl rfl 29 #[.int .i64 0, .int .i64 0, .int .i64 0, .int .i64 0, .int .i64 0, .int .i64 0, .int .i64 0, .int .i64 0, .int .i64 0, .int .i64 0, .int .i64 0, .int .i64 0, .int .i64 0, .int .i64 0, .int .i64 0, .int .i64 0, .bool false, .int .i64 0, .int .i64 0, .int .i64 0, .slice none 0 0, .slice none 0 0, .slice none 0 0, .int .i64 0] HN8.out (mSize _ _ _ _ _ _) rfl (mAll _ _ _ _ _ _ _ _) ?_) | fail)
            have HQS : Hid (QS w (mC m ba bc (.slice s0 sy.length s2) ta tc) sy wr.heap.size m ((wr.alloc (.cells #[.int .i64 0, .int .i64 0, .int .i64 0, .int .i64 0, .int .i64 0, .int .i64 0, .int .i64 0, .int .i64 0, .int .i64 0, .int .i64 0, .int .i64 0, .int .i64 0, .int .i64 0, .int .i64 0, .int .i64 0, .int .i64 0, .bool false, .int .i64 0, .int .i64 0, .int .i64 0, .slice none 0 0, .slice none 0 0, .slice none 0 0, .int .i64 0] 29)).setRow wr.heap.size (mC m ba bc (.slice s0 sy.length s2) ta tc))) := by
              obtain ⟨hbx, hqx⟩ := newbox wr #[.int .i64 0, .int .i64 0, .int .i64 0, .int .i64 0, .int .i64 0, .int .i64 0, .int .i64 0, .int .i64 0, .int .i64 0, .int .i64 0, .int .i64 0, .int .i64 0, .int .i64 0, .int .i64 0, .int .i64 0, .int .i64 0, .bool false, .int .i64 0, .int .i64 0, .int .i64 0, .slice none 0 0, .slice none 0 0, .slice none 0 0, .int .i64 0] (mC m ba bc (.slice s0 sy.length s2) ta tc)
              exact ⟨HAB.out.next hbx, ⟨_, hqx, ((HARG.out wr HAB.out.bel).1.n (Nat.le_refl _)).next hbx⟩, HAB.out.lt⟩
            have HST0 : Hid (StAt m 0 m) := ⟨HR.out, rfl, rfl⟩
            generalize World.setRow _ wr.heap.size _ = X8 at *
            generalize wr.heap.size = q8 at *
            clear HN8 HAB x19 x20 hj hlt hlt1
            try simp only [Act.put]
            go_loopw [59] (fun i wr => ∃ k : Nat, k ≤ n ∧ i = .int .i64 k ∧ ∃ M, Hid (StAt m k M) ∧ Hid (QS w (mC m ba bc (.slice s0 sy.length s2) ta tc) sy q8 M wr)) (fun i _ => n - (intOf i).toNat)
            case atStart => exact ⟨0, Nat.zero_le _, rfl, m, HST0, HQS⟩
            case round =>
              obtain ⟨k, hk, rfl, M, HK, HP⟩ := hrel
              clear HST0 HQS
              by_cases hlt : k < n
              · have hk1 : (k : Int) < n := by omega
                obtain ⟨cz, hbz, hvz⟩ := HP.out.b8
                have hfz := hvz.form.1
                have hsz := hvz.form.2.2
                have HBZ := Lib.hid hbz
                have hq8 : q8 < wr.heap.size := (Array.getElem?_eq_some_iff.1 hbz).1
                have HST := Lib.hid (sstep_any M k sy (.agg cz) wr hvz.mv (HARG.out wr HP.out.ab.bel).2.1 HK.out.rn (by omega) hsl)
                clear hbz hvz
                by_cases h0 : stepE M = 0
                · have HK2 := Lib.hid (HK.out.step HNO.out HEV.out h0)
                  rw [h0] at HST
                  clear h0 HK
                  generalize stepM M = M2 at *
                  generalize stepD M = DD at *
                  go_upto_region 19 with (first | (refine wpList_load_row rfl 29 _ rfl q8 rfl 29 cz (0, 0) _ HBZ.out Tryd.underlying29 rfl hfz ?_) | (go_at_call 7; refine HST.out.mono ?_; rintro e W2' ⟨v', rfl, hb2, h2⟩; have hv2 : MVb wr.heap.size W2' v' M2 sy := (by rcases h2 with ⟨h, _⟩ | ⟨_, h⟩; exact absurd rfl h; exact h); have hv2n := hv2.n hq8; obtain ⟨ba2, bc2, s02, s22, ta2, tc2, rfl, hB2, _, hS2, _⟩ := hv2; have HN2 := Lib.hid (blk_new W2' #[.int .i64 0, .int .i64 0, .int .i64 0, .int .i64 0, .int .i64 0, .int .i64 0, .int .i64 0, .int .i64 0, .int .i64 0, .int .i64 0, .int .i64 0, .int .i64 0, .int .i64 0, .int .i64 0, .int .i64 0, .int .i64 0, .bool false, .int .i64 0, .int .i64 0, .int .i64 0, .slice none 0 0, .slice none 0 0, .slice none 0 0, .int .i64 0] 29); have HP2 := Lib.hid (HP.out.next hb2); have HV2 := Lib.hid hv2n; have HBZ2 := Lib.hid ((hb2.block _ (Array.getElem?_eq_some_iff.1 HBZ.out).1).trans HBZ.out); have HB2 := Lib.hid hB2; have HS2 := Lib.hid hS2; clear hb2 h2 hv2n hB2 hS2 HP HBZ HST) | (refine wpList_store_row rfl 29 _ _ rfl W2'.heap.size (mC M2 ba2 bc2 (.slice s02 sy.length s22) ta2 tc2) rfl rfl 29 #[.int .i64 0, .int .i64 0, .int .i64 0, .int .i64 0, .int .i64 0, .int .i64 0, .int .i64 0, .int .i64 0, .int .i64 0, .int .i64 0, .int .i64 0, .int .i64 0, .int .i64 0, .int .i64 0, .int .i64 0, .int .i64 0, .bool false, .int .i64 0, .int .i64 0, .int .i64 0, .slice none 0 0, .slice none 0 0, .slice none 0 0, .int .i64 0] HN2.out (mSize _ _ _ _ _ _) rfl (mAll _ _ _ _ _ _ _ _) ?_; obtain ⟨hbx, hqx⟩ := newbox W2' #[.int .i64 0, .int .i64 0, .int .i64 0, .int .i64 0, .int .i64 0, .int .i64 0, .int .i64 0, .int .i64 0, .int .i64 0, .int .i64 0, .int .i64 0, .int .i64 0, .int .i64 0, .int .i64 0, .int .i64 0, .int .i64 0, .bool false, .int .i64 0, .int .i64 0, .int .i64 0, .slice none 0 0, .slice none 0 0, .slice none 0 0, .int .i64 0] (mC M2 ba2 bc2 (.slice s02 sy.length s22) ta2 tc2); generalize World.setRow _ W2'.heap.size _ = X2 at hbx hqx ⊢; have HP3 := Lib.hid (HP2.out.next hbx); have HV3 := Lib.hid (HV2.out.next hbx); have HQ3 := Lib.hid hqx; have HBZ3 := Lib.hid ((hbx.block _ (Array.getElem?_eq_some_iff.1 HBZ2.out).1).trans HBZ2.out); have HB3 := Lib.hid (HB2.out.next hbx); have HS3 := Lib.hid (HS2.out.below hbx (Nat.le_refl _)); clear hbx hqx HN2 HP2 HV2 HBZ2 HB2 HS2) | fail)
                  generalize W2'.heap.size = q9 at *
                  have HSI := Lib.hid (simg_any m.base m.by' sy (.slice ba2 m.by'.length bc2) (.slice s02 sy.length s22) (.slice ba m.by'.length bc) (.slice s0 sy.length s2) X2 (BRd.ob (HK2.out.sm.1 ▸ HB3.out) (by unfold maxLen; omega)) (SrcOf.sy HS3.out (by have := HSY.out; unfold maxLen; omega)) (BRd.ob (HARG.out X2 HP3.out.ab.bel).2.2.1 (by unfold maxLen; omega)) (SrcOf.sy (HARG.out X2 HP3.out.ab.bel).2.2.2 (by have := HSY.out; unfold maxLen; omega)))
                  obtain ⟨_, _, _, y19, y20, y21, _, _⟩ := mcs HQ3.out
                  obtain ⟨_, _, _, x19, x20, x21, _, _⟩ := mcs HP3.out.ab.box
                  rw [HK2.out.sm.2] at y19
                  rw [HK2.out.sm.1] at y20
                  go_upto_region 21 with (first | (go_at_call 13; refine HSI.out.mono ?_; rintro e W4 ⟨rfl, hb4⟩; have HP4 := Lib.hid (HP3.out.next hb4); have HV4 := Lib.hid (HV3.out.next hb4); have HQ4 := Lib.hid ((hb4.block _ (Array.getElem?_eq_some_iff.1 HQ3.out).1).trans HQ3.out); have HBZ4 := Lib.hid ((hb4.block _ (Array.getElem?_eq_some_iff.1 HBZ3.out).1).trans HBZ3.out); clear hb4 HP3 HV3 HQ3 HBZ3 HB3 HS3 HSI y19 y20 y21 x19 x20 x21) | fail)
                  have a0 := fun kk (hkk : kk < 16) => cell_of_block (i := kk) HQ4.out (mC_reg M2 ba2 bc2 _ ta2 tc2 kk hkk)
                  have a0' := a0 0 (by decide)
                  have a1' := a0 1 (by decide)
                  have a2' := a0 2 (by decide)
                  have a3' := a0 3 (by decide)
                  have a4' := a0 4 (by decide)
                  have a5' := a0 5 (by decide)
                  have a6' := a0 6 (by decide)
                  have a7' := a0 7 (by decide)
                  have a8' := a0 8 (by decide)
                  have a9' := a0 9 (by decide)
                  have a10' := a0 10 (by decide)
                  have a11' := a0 11 (by decide)
                  have a12' := a0 12 (by decide)
                  have a13' := a0 13 (by decide)
                  have a14' := a0 14 (by decide)
                  have a15' := a0 15 (by decide)
                  clear a0
                  go_wp2
                  clear a0' a1' a2' a3' a4' a5' a6' a7' a8' a9' a10' a11' a12' a13' a14' a15'
                  have HRG : Hid (∀ kk, wrap32 (M2.r kk) = M2.r kk) := fun kk => w32_id (HK2.out.rn.reg kk).1 (HK2.out.rn.reg kk).2
                  have HS : Hid (∀ (n : Int) (X : World), Calls Tryd.prog 20 #[.int .i64 n] X fun e w' => e = .returned (.int .i64 (wrap32 n)) ∧ X = w') := fun n X => by
                    have := rSigned_any n X
                    rw [w6432] at this
                    exact this.mono fun _ _ ⟨h1, h2⟩ => ⟨h1, h2.symm⟩
                  try simp only [Act.put]
                  go_loop [80] (fun i => ∃ j : Nat, j ≤ 16 ∧ i = .int .i64 j) (fun i => 16 - (intOf i).toNat)
                  case atStart => exact ⟨0, Nat.zero_le _, rfl⟩
                  case round =>
                    obtain ⟨j, hj, rfl⟩ := hrel
                    by_cases hltj : j < 16
                    · have hix := regIndex M2.r j hltj
                      have hj1 : (j : Int) < 16 := by omega
                      have hq2 : (M2.r j != wrap32 (M2.r j)) = false := by simp [HRG.out j]
                      go_wp2_with (first | (go_at_call 20; refine (HS.out _ _).mono ?_; rintro e w' ⟨rfl, rfl⟩) | fail)
                      exact ⟨⟨j + 1, by omega, by go_num⟩, by simp [intOf]; omega⟩
                    · have hj1 : ¬ (j : Int) < 16 := by omega
                      clear HS HRG
                      cases DD
                      · go_wp2_with (first | (refine wpList_load_row rfl 29 _ rfl q9 rfl 29 (mC M2 ba2 bc2 (.slice s02 sy.length s22) ta2 tc2) (0, 0) _ HQ4.out Tryd.underlying29 rfl (mSize _ _ _ _ _ _) ?_) | (refine wpList_store_row rfl 29 _ _ rfl q8 (mC M2 ba2 bc2 (.slice s02 sy.length s22) ta2 tc2) rfl rfl 29 cz HBZ4.out (mSize _ _ _ _ _ _) (hsz.symm.trans rfl) (mAll _ _ _ _ _ _ _ _) ?_; have HP5 := Lib.hid (HP4.out.put HV4.out); generalize World.setRow W4 q8 (mC M2 ba2 bc2 (.slice s02 sy.length s22) ta2 tc2) = X3 at *; clear HP4 HV4 HQ4 HBZ4) | fail)
                        exact ⟨⟨k + 1, by omega, by go_num, M2, HK2, HP5⟩, by simp [intOf]; omega⟩
                      · go_wp2
                        go_ret
                        exact ⟨rfl, HP4.out.ab.bel⟩
                · have h0b : (stepE M != 0) = true := by simpa using h0
                  have HN0 := Lib.hid h0
                  clear h0 HK
                  generalize stepE M = EE at *
                  generalize stepM M = M2 at *
                  generalize stepD M = DD at *
                  go_wp2_with (first | (refine wpList_load_row rfl 29 _ rfl q8 rfl 29 cz (0, 0) _ HBZ.out Tryd.underlying29 rfl hfz ?_) | (go_at_call 7; refine HST.out.mono ?_; rintro e W2' ⟨v', rfl, hb2, h2⟩; obtain rfl : v' = .agg zC := (by rcases h2 with ⟨_, h⟩ | ⟨h, _⟩; exact h; exact absurd h HN0.out); have HN2 := Lib.hid (blk_new W2' #[.int .i64 0, .int .i64 0, .int .i64 0, .int .i64 0, .int .i64 0, .int .i64 0, .int .i64 0, .int .i64 0, .int .i64 0, .int .i64 0, .int .i64 0, .int .i64 0, .int .i64 0, .int .i64 0, .int .i64 0, .int .i64 0, .bool false, .int .i64 0, .int .i64 0, .int .i64 0, .slice none 0 0, .slice none 0 0, .slice none 0 0, .int .i64 0] 29); have HP2 := Lib.hid (HP.out.next hb2); clear hb2 h2) | (refine wpList_store_row rfl 29 _ _ rfl W2'.heap.size zC rfl rfl 29 #[.int .i64 0, .int .i64 0, .int .i64 0, .int .i64 0, .int .i64 0, .int .i64 0, .int .i64 0, .int .i64 0, .int .i64 0, .int .i64 0, .int .i64 0, .int .i64 0, .int .i64 0, .int .i64 0, .int .i64 0, .int .i64 0, .bool false, .int .i64 0, .int .i64 0, .int .i64 0, .slice none 0 0, .slice none 0 0, .slice none 0 0, .int .i64 0] HN2.out zSize rfl zAll ?_; obtain ⟨hbx, hqx⟩ := newbox W2' #[.int .i64 0, .int .i64 0, .int .i64 0, .int .i64 0, .int .i64 0, .int .i64 0, .int .i64 0, .int .i64 0, .int .i64 0, .int .i64 0, .int .i64 0, .int .i64 0, .int .i64 0, .int .i64 0, .int .i64 0, .int .i64 0, .bool false, .int .i64 0, .int .i64 0, .int .i64 0, .slice none 0 0, .slice none 0 0, .slice none 0 0, .int .i64 0] zC; generalize World.setRow _ W2'.heap.size _ = X2 at hbx hqx ⊢; have HP3 := Lib.hid (HP2.out.next hbx); have HQ3 := Lib.hid hqx; clear hbx hqx HN2 HP2) | (refine wpList_load_row rfl 29 _ rfl W2'.heap.size rfl 29 zC (0, 0) _ HQ3.out Tryd.underlying29 rfl zSize ?_) | (go_at_call 9; refine (same_any zeroM [] (.agg zC) (.agg zC) _ (MV.zero _) (MV.zero _) (by decide) (by decide) (by decide)).mono ?_; rintro e W6 ⟨rfl, hb6⟩; have HB6 := Lib.hid (HP3.out.next hb6).ab.bel; clear hb6) | fail)
                  go_ret
                  exact ⟨rfl, HB6.out⟩
              · have hk1 : ¬ (k : Int) < n := by omega
                go_wp2
                go_ret
                exact ⟨rfl, HP.out.ab.bel⟩
          · have hev2 : (m.base % 2 != 0) = true := by simpa using hev
            clear hev
            go_wp2
            go_ret
            exact ⟨rfl, HAB.out.bel⟩

end Go.Proofs.YtabepbaldadmgaaDoor

namespace Go.Proofs.YtabepbaldadmgaaDoor
open Go.ChangeShapes Go.WideShapes Go.ChangeAt Go.RowKit Go.Joins

theorem own : ownKnob Tryd.prog.godebug = none := by kernel_rfl
theorem laidOut : laidOutB Tryd.prog = true := by kernel_rfl
theorem wit (os : Os) (args : Array Value) : laidMetH Tryd.prog Isa.laidL ((World.laidAll Tryd.prog os Isa.laidL).forCall (fun _ _ => 0) ⟨#[], args, []⟩).memory := by
  rw [MakeChecks.laidMetH_plain _ _ _ (by kernel_rfl)]
  exact laidMet_laidAll _ (by kernel_rfl) (by kernel_rfl)

theorem bulk1 {H : Type} {d0 d1 : DataW H} (h : Rows.uptoSmall H ([d0, d1] ++ []) = true) : Rows.uptoBulk d0 ≤ 1048576 := by
  have h1 : Rows.uptoBulkAll ([d0, d1] ++ []) ≤ 1048576 := of_decide_eq_true h
  simp only [List.append_nil, Rows.uptoBulkAll] at h1
  omega

theorem law_reads (os : Os) {H : Type} (enc : TypeId × Value → H) : ∃ places, DataW.whole enc Tryd.prog ((World.laidAll Tryd.prog os Isa.laidL).forCall (fun _ _ => 0) ⟨#[], #[.agg #[.int .i64 0, .int .i64 0, .int .i64 0, .int .i64 0, .int .i64 0, .int .i64 0, .int .i64 0, .int .i64 0, .int .i64 0, .int .i64 0, .int .i64 0, .int .i64 0, .int .i64 0, .int .i64 0, .int .i64 0, .int .i64 0, .bool false, .int .i64 0, .int .i64 0, .int .i64 0, .slice none 0 0, .slice none 0 0, .slice none 0 0, .int .i64 0], .int .i64 0], []⟩).memory Tryd.f5.params.toList Rows.simStaysSpec.vars false (#[.agg #[.int .i64 0, .int .i64 0, .int .i64 0, .int .i64 0, .int .i64 0, .int .i64 0, .int .i64 0, .int .i64 0, .int .i64 0, .int .i64 0, .int .i64 0, .int .i64 0, .int .i64 0, .int .i64 0, .int .i64 0, .int .i64 0, .bool false, .int .i64 0, .int .i64 0, .int .i64 0, .slice none 0 0, .slice none 0 0, .slice none 0 0, .int .i64 0], .int .i64 0] : Array Value).toList 8 = some ([.agg [.agg [.lit (.int .i64 0), .lit (.int .i64 0), .lit (.int .i64 0), .lit (.int .i64 0), .lit (.int .i64 0), .lit (.int .i64 0), .lit (.int .i64 0), .lit (.int .i64 0), .lit (.int .i64 0), .lit (.int .i64 0), .lit (.int .i64 0), .lit (.int .i64 0), .lit (.int .i64 0), .lit (.int .i64 0), .lit (.int .i64 0), .lit (.int .i64 0)], .lit (.bool false), .lit (.int .i64 0), .lit (.int .i64 0), .agg [.lit (.int .i64 0), .nil, .nil], .nil, .lit (.int .i64 0)], .lit (.int .i64 0)], [], places) :=
  ⟨[], by kernel_rfl⟩

set_option maxRecDepth 100000 in
theorem law_lifted (os : Os) (started : os.Started) (H : Type) (enc : TypeId × Value → H) (F : Stop.Interp) :
    ReturnsInHanded {} Tryd.checked os 5 .any ((Rows.OpenSpec.upto Rows.simStaysSpec).preRow enc Tryd.prog Tryd.f5 Rows.simStaysUptoRow.domain false Isa.laidL) (((Rows.OpenSpec.upto Rows.simStaysSpec).at F).post enc Tryd.prog Tryd.f5 false true false false) := by
  obtain ⟨places, hx⟩ := law_reads os enc
  refine returnsInHanded_of_row (C := Tryd.checked) (s := Rows.OpenSpec.upto Rows.simStaysSpec) own started (by kernel_rfl) Tryd.func5
    ⟨World.laidAll Tryd.prog os Isa.laidL, fun _ _ => 0, ⟨#[], #[.agg #[.int .i64 0, .int .i64 0, .int .i64 0, .int .i64 0, .int .i64 0, .int .i64 0, .int .i64 0, .int .i64 0, .int .i64 0, .int .i64 0, .int .i64 0, .int .i64 0, .int .i64 0, .int .i64 0, .int .i64 0, .int .i64 0, .bool false, .int .i64 0, .int .i64 0, .int .i64 0, .slice none 0 0, .slice none 0 0, .slice none 0 0, .int .i64 0], .int .i64 0], []⟩, World.laidAll_os _ _ _, World.shaped_of_ZipB (by kernel_rfl) (by kernel_rfl), rfl, (Input.okWide_of_okWideB (by kernel_rfl)).2,
      OpenSpec.preRow_of_cond 8 hx (by kernel_rfl) (fun k hk => by cases hk; kernel_rfl) (by kernel_rfl) (wit os _), by
      simp only [Assume.holds]
      exact ⟨by simp, by simp, fun _ => Modest.zero, by simp, by simp⟩⟩ ?_
  intro W base args ds gs before hval0 hW _ hcond hsz hL hsh _
  have hval : ∀ (j : Nat) t v, Tryd.f5.params[j]? = some t → args[j]? = some v → Value.okWide Tryd.prog W .any base t v := hval0
  have hW' := hW
  obtain ⟨p, q, hA0, hV, rfl, hfz, hnd⟩ := hW
  have hA : DataW.TrodAll enc Tryd.prog W 0 (fun _ => true) true Tryd.f5.params.toList args.toList ds p := hA0
  rw [Tryd.params5] at hA hval
  obtain ⟨v0, vs0, d0, ds0, p0, q0, hargs, rfl, rfl, h0, r0⟩ := trodAll_cons hA
  obtain ⟨v1, vs1, d1, ds1, p1, q1, rfl, rfl, rfl, h1, r1⟩ := trodAll_cons r0
  obtain ⟨rfl, rfl, rfl⟩ := trodAll_nil r1
  obtain rfl : args = #[v0, v1] := by cases args; simp_all
  obtain ⟨rfl, rfl⟩ := trodVars_none hV
  obtain ⟨c0, rfl, hsz0⟩ := okWide_struct Tryd.underlying29 (hval 0 29 v0 rfl rfl)
  have k0 := h0
  have lt0 : ∀ x ∈ p0, x.block < W.heap.size := by obtain ⟨m, hm⟩ := k0; exact DataW.trod_lt m _ _ _ hm
  have hbk := bulk1 (hcond _ rfl)
  obtain ⟨fuel, hf⟩ := h0
  obtain ⟨c, m, sy, hcs, hMV, hAM⟩ := amachine hf hbk
  obtain rfl : c0 = c := by
    have : c0.toList = c.toList := hcs
    cases c0; cases c; simp_all
  obtain ⟨x1, rfl, rfl, rfl, w1⟩ := open_int Tryd.underlying3 (hval 1 3 v1 rfl rfl) h1
  clear hA0 hval0 hcond
  have hLd : Isa.Laid W := Isa.laid_of hL
  refine (stays_any m sy (.agg c0) x1 W hMV hLd hAM).mono fun e W' ⟨he, bel⟩ => ?_
  subst he
  exact ⟨_, rfl, _, _, _, [], _, [], hW', trodAll_mk1 (shut_bool Tryd.underlying4 _), (trodAll_cons_mk (Below.trod laidOut (by kernel_rfl) (of_decide_eq_true (by kernel_rfl)) k0 bel lt0) (trodAll_cons_mk (shut_int Tryd.underlying3 w1) trodAll_mk0)), rfl, bel.frame _, fun h => by cases h⟩

theorem law_said : Rows.SimStaysUptoSaid :=
  OpenClaim.holds_of_cond 5 Tryd.f5 rfl rfl rfl rfl rfl rfl rfl ⟨rfl, rfl, rfl, rfl, rfl⟩ rfl rfl rfl rfl rfl (by kernel_rfl) Tryd.func5 (by kernel_rfl)
    (of_decide_eq_true (by kernel_rfl)) (by unfold Func.isWrapper; rw [if_neg (of_decide_eq_false (by kernel_rfl))]; exact ⟨rfl, rfl⟩)
    (fun os started H enc _ F => by rw [OpenClaim.pre_eq_preRow]; exact law_lifted os started H enc F)

theorem law_card : Rows.SimStaysUptoCardSaid :=
  Claim7.holds_tied_plain_at .later [] _ _ _ _
    law_said (fun _ h => by cases h) (by kernel_rfl) (fun _ h => by cases h) simStaysUpto_row_tie rfl ⟨rfl, rfl⟩ (by kernel_rfl) rfl
    (fun f fn hf hfn => by
      obtain rfl : f = 5 := Option.some.inj ((show Tryd.prog.funcNamed "platelayer/pllaw9.SimStays" = some 5 by kernel_rfl).symm.trans hf) |>.symm
      obtain rfl : fn = Tryd.f5 := (Option.some.inj (Tryd.func5.symm.trans hfn)).symm
      exact ⟨by kernel_rfl, fun j t ht => by
        rw [Tryd.params5] at ht
        have hm : t ∈ [29, 3] := by simpa using Array.mem_of_getElem? ht
        have hall : ([29, 3].all fun u => !Tryd.prog.wantsStandIn u) = true := by kernel_rfl
        exact (show Tryd.prog.wantsStandIn t = false by simpa using List.all_eq_true.1 hall t hm)⟩)
    (by kernel_rfl)
#print axioms law_card

end Go.Proofs.YtabepbaldadmgaaDoor
