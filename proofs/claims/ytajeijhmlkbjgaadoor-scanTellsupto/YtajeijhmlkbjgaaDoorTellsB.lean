/- The walk of ScanTells, on. -/
import Derived.Test.YtajeijhmlkbjgaaDoorTellsA
namespace Go.Proofs.YtajeijhmlkbjgaaDoor
open Go.RowKit

theorem name_at (s : ByteArray) (w : World) :
    Calls Tryd.prog 30 #[.string s] w fun e w' => e = .returned (.bool (nameR s.data.toList)) ∧ w = w' :=
  (name_any s w).mono fun _ _ h => ⟨h.1, h.2.symm⟩

set_option maxHeartbeats 4000000 in
set_option maxRecDepth 100000 in
theorem scanTells_any (s : ByteArray) (bd : Option Addr) (cb : Nat) (bs : List UInt8) (v : Value) (ts : List Tok) (w : World) (hG : Glob w)
    (hb : BReads w (.slice bd bs.length cb) bs) (hcb : bs.length ≤ cb) (hv : TReads w v ts) (hn : ts.length ≤ 4398046511104) (hf : Fits ts) (hlen : (printL ts).length ≤ 140737488355328) :
    Calls Tryd.prog 6 #[.string s, .slice bd bs.length cb, v] w fun e w' => e = .returned (.bool true) ∧ Below w.heap.size w w' := by
  have hsz := hG.sz
  have HG : Hid (Glob w) := hG
  have HV : Hid (TReads w v ts) := hv
  have HBR : Hid (BReads w (.slice bd bs.length cb) bs) := hb
  have HF : Hid (Fits ts) := hf
  clear hb hv hf
  go_enter Tryd.func6, Tryd.ntmps6
  go_wp2_with fail
  refine (tokens_any s w hG).mono ?_
  rintro e w1 ⟨⟨lv, rfl, hlv⟩, hb1⟩
  have HL1 : Hid (TReads w1 lv (lineList s.data.toList)) := reads_of_owns hlv
  clear hlv hG
  go_wp2_with fail
  refine (rtokens_any s w1).mono ?_
  rintro e w2 ⟨⟨mv, rfl, hmv⟩, hb2⟩
  have hl2 := HL1.out.below hb2 (Nat.le_refl _)
  have hm2 := reads_of_owns hmv
  have HB2 : Hid (Below w.heap.size w w2) := hb1.trans (hb2.mono hb1.size)
  clear hmv HL1 hb1 hb2
  generalize lineErr s.data.toList = E at *
  have hee : (E != E) = false := by simp
  go_wp2_with fail
  refine (sameTokens_true lv mv _ w2 hl2 hm2).mono ?_
  rintro e w3 ⟨rfl, hb3⟩
  have HB3 : Hid (Below w.heap.size w w3) := HB2.out.trans (hb3.mono HB2.out.size)
  clear hb3 hl2 hm2 HB2
  have hv3 := HV.out.below HB3.out (Nat.le_refl _)
  have hG3 : Glob w3 := HG.out.below HB3.out hsz
  go_wp2_with (first | (go_at_call 30; refine (name_at s _).mono ?_; rintro e w' ⟨rfl, rfl⟩) | (go_at_call 31; refine (rname_any s _).mono ?_; rintro e w' ⟨rfl, rfl⟩))
  refine (print_any v ts w3 hG3 hv3 hn HF.out hlen).mono ?_
  rintro e w4 ⟨rfl, hb4⟩
  have HB4 : Hid (Below w.heap.size w w4) := HB3.out.trans (hb4.mono HB3.out.size)
  clear hb4 hv3 hG3 HB3
  have hv4 := HV.out.below HB4.out (Nat.le_refl _)
  have hG4 : Glob w4 := HG.out.below HB4.out hsz
  go_wp2_with fail
  refine (rprint_any v ts w4 hG4 hv4 HF.out hlen).mono ?_
  rintro e w5 ⟨rfl, hb5⟩
  have HB5 : Hid (Below w.heap.size w w5) := HB4.out.trans (hb5.mono HB4.out.size)
  clear hb5 hv4 hG4 HB4
  have hb5' := HBR.out.below HB5.out (Nat.le_refl _)
  have hG5 : Glob w5 := HG.out.below HB5.out hsz
  go_wp2_with fail
  refine (lines_any _ bs w5 hG5 hb5').mono ?_
  rintro e w6 ⟨⟨xv, px, rfl, hpx, hlx⟩, hb6⟩
  have HX6 : Hid (LReads w6 xv (srcList bs)) := by rw [← hpx]; exact reads_lown hlx
  clear hpx hlx hb5' hG5
  have HB6 : Hid (Below w.heap.size w w6) := HB5.out.trans (hb6.mono HB5.out.size)
  clear hb6 HB5
  obtain ⟨E1, hE1⟩ : ∃ E1, srcErr bs = E1 := ⟨_, rfl⟩
  obtain ⟨A1, hA1⟩ : ∃ A1, srcAt bs = A1 := ⟨_, rfl⟩
  rw [hE1, hA1]
  have HE : Hid (srcErr bs = E1 ∧ srcAt bs = A1) := ⟨hE1, hA1⟩
  clear hE1 hA1
  have HB6' : Hid (Below w.heap.size w (w6.alloc (.cells #[.int .i64 E1, .int .i64 A1] 57))) := HB6.out.alloc HB6.out.size _
  have hb6' := HBR.out.below HB6'.out (Nat.le_refl _)
  go_wp2_with fail
  refine (rlines_any bd cb bs _ hb6' hcb).mono ?_
  rintro e w7 ⟨⟨yv, py, rfl, hpy, hly⟩, hb7⟩
  rw [HE.out.1, HE.out.2]
  have hb7a : Below (w6.heap.size + 1) (w6.alloc (.cells #[.int .i64 E1, .int .i64 A1] 57)) (w7.alloc (.cells #[.int .i64 E1, .int .i64 A1] 57)) := by
    have h1 : (w6.alloc (.cells #[.int .i64 E1, .int .i64 A1] 57)).heap.size = w6.heap.size + 1 := by simp
    rw [← h1]
    exact hb7.alloc hb7.size _
  have HY7 : Hid (LReads (w7.alloc (.cells #[.int .i64 E1, .int .i64 A1] 57)) yv (srcList bs)) := by rw [← hpy]; exact (reads_lown hly).below ((Below.refl _ _).alloc (Nat.le_refl _) _) (Nat.le_refl _)
  have HX7 : Hid (LReads (w7.alloc (.cells #[.int .i64 E1, .int .i64 A1] 57)) xv (srcList bs)) := (HX6.out.below ((Below.refl _ _).alloc (Nat.le_refl _) _) (Nat.le_refl _)).below hb7a (by simp)
  have HB7 : Hid (Below w.heap.size w (w7.alloc (.cells #[.int .i64 E1, .int .i64 A1] 57))) := HB6'.out.trans (hb7a.mono (by have := HB6.out.size; omega))
  have f10 : (w7.alloc (.cells #[.int .i64 E1, .int .i64 A1] 57)).cell? ⟨w6.heap.size, 0, none⟩ = some (.int .i64 E1) := by rw [hb7a.cell (by simp)]; simp [go_sem]
  have f11 : (w7.alloc (.cells #[.int .i64 E1, .int .i64 A1] 57)).cell? ⟨w6.heap.size, 1, none⟩ = some (.int .i64 A1) := by rw [hb7a.cell (by simp)]; simp [go_sem]
  clear hpy hly hb7 hb7a HX6 HB6 HB6' hb6' HE
  have hN := src_len bs
  have HT : Hid (∀ l, l ∈ srcList bs → l.toks.length ≤ 80) := src_toks bs
  generalize srcList bs = LS at *
  go_wp2_with fail
  refine (sameLines_true xv yv LS _ HX7.out HY7.out).mono ?_
  rintro e w8 ⟨rfl, hb8⟩
  have HY8 : Hid (LReads w8 yv LS) := HY7.out.below hb8 (Nat.le_refl _)
  have HB8 : Hid (Below w.heap.size w w8) := HB7.out.trans (hb8.mono HB7.out.size)
  clear hb8 HX7 HY7 HB7 f10 f11
  go_wp2_with fail
  refine (own_any yv LS w8 HY8.out (by omega) (fun i h => by have := HT.out LS[i] (List.getElem_mem h); omega)).mono ?_
  rintro e w9 ⟨rfl, HP, hz9, hb9⟩
  have HY9 : Hid (LReads w9 yv LS) := HY8.out.below hb9 (Nat.le_refl _)
  have HO9 : Hid (LReads w9 (.slice (some ⟨w8.heap.size, 0, none⟩) LS.length LS.length) LS) := reads_own HP.out hz9 hN HT.out
  have HB9 : Hid (Below w.heap.size w w9) := HB8.out.trans (hb9.mono HB8.out.size)
  clear hb9 HY8 HB8 HP hz9
  go_wp2_with fail
  refine (sameLines_true _ yv LS w9 HO9.out HY9.out).mono ?_
  rintro e w10 ⟨rfl, hb10⟩
  have HB10 : Hid (Below w.heap.size w w10) := HB9.out.trans (hb10.mono HB9.out.size)
  clear hb10
  go_wp2
  go_ret
  exact ⟨rfl, HB10.out⟩

end Go.Proofs.YtajeijhmlkbjgaaDoor
