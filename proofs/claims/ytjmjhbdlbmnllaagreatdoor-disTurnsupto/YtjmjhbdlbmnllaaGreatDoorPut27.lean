/- pllaw8.feeds (DisTurns). pllaw8.DisTurns' own walk, from what its callees answer. -/
import Derived.Test.YtjmjhbdlbmnllaaGreatDoorPut10
import Derived.Test.YtjmjhbdlbmnllaaGreatDoorUaP
import Derived.Handy
import Derived.Test.YtjmjhbdlbmnllaaGreatDoorPut25
import Derived.Lib.ConvBytes
namespace Go.Proofs.YtjmjhbdlbmnllaaGreatDoor
open Go.RowKit

theorem feed_step {al : List UInt8} {k : Nat} (h : k < al.length) : (al.take (k + 1)).count 10 = (al.take k).count 10 + if al[k] = 10 then 1 else 0 := by
  rw [List.take_add_one, List.getElem?_eq_getElem h]
  simp only [Option.toList_some, List.count_append, List.count_singleton]
  by_cases e : al[k] = 10
  · simp [e]
  · simp [e]
set_option maxHeartbeats 4000000 in
theorem feeds_any (s : ByteArray) (w : World) (hl : s.size ≤ 1000000000) :
    Calls Tryz.prog 7 #[.string s] w fun e w' => e = .returned (.int .i64 ((s.data.toList.count 10 : Nat) : Int)) ∧ w' = w := by
  have hsl : s.data.toList.length = s.size := rfl
  go_enter Tryz.func7, Tryz.ntmps7
  go_wp2_with fail
  go_loop [3, 7] (fun n i => ∃ k : Nat, k ≤ s.size ∧ i = .int .i64 k ∧ n = .int .i64 (((s.data.toList.take k).count 10 : Nat) : Int)) (fun _ i => s.size - (intOf i).toNat)
  case atStart => exact ⟨0, Nat.zero_le _, rfl, by simp⟩
  case round =>
    obtain ⟨k, hk, rfl, rfl⟩ := hrel
    have hcl : (s.data.toList.take k).count 10 ≤ s.size := Nat.le_trans List.count_le_length (by simp; omega)
    by_cases hlt : k < s.size
    · have hk1 : (k : Int) < s.size := by omega
      have hidx := index9 s k k rfl hlt
      have HS : Hid ((s.data.toList.take (k + 1)).count 10 = (s.data.toList.take k).count 10 + if s[k] = 10 then 1 else 0) := feed_step (al := s.data.toList) (by rw [hsl]; exact hlt)
      by_cases e : s[k] = 10
      · rw [if_pos e] at HS
        have e' : (((s[k].toNat : Nat) : Int) == 10) = true := by rw [e]; rfl
        generalize (s.data.toList.take k).count 10 = cn at *
        go_wp2
        exact ⟨⟨k + 1, by omega, by go_num, by rw [HS.out]; go_num⟩, by simp [intOf]; omega⟩
      · rw [if_neg e] at HS
        have e' : (((s[k].toNat : Nat) : Int) == 10) = false := by
          rw [beq_eq_false_iff_ne]
          intro h
          apply e
          apply UInt8.toNat_inj.1
          have : s[k].toNat = 10 := by omega
          rw [this]; rfl
        generalize (s.data.toList.take k).count 10 = cn at *
        go_wp2
        exact ⟨⟨k + 1, by omega, by go_num, by rw [HS.out]; rfl⟩, by simp [intOf]; omega⟩
    · have hk1 : ¬ (k : Int) < s.size := by omega
      have hke : k = s.size := by omega
      subst hke
      rw [show s.data.toList.take s.size = s.data.toList by rw [← hsl, List.take_length]]
      go_wp2
      go_ret
      exact ⟨rfl, rfl⟩

end Go.Proofs.YtjmjhbdlbmnllaaGreatDoor

namespace Go.Proofs.YtjmjhbdlbmnllaaGreatDoor
open Go.RowKit

theorem conv_rd (W : World) (S : List UInt8) (hS : S.length ≤ 1000000000) : Below W.heap.size W (Lib.bytesWorld W 5 ⟨S.toArray⟩) ∧ Sc.BReads (Lib.bytesWorld W 5 ⟨S.toArray⟩) (.slice (some ⟨W.heap.size, 0, none⟩) S.length (grownCap W S.length 0 5)) S := by
  refine ⟨Lib.bytesWorld_below _ _ _, _, _, rfl, by unfold maxLen; omega, fun _ => ⟨_, _, rfl, by rw [Lib.bytesWorld_size]; omega, fun i hi => ?_⟩⟩
  rw [Nat.zero_add, Lib.bytesWorld_cell _ _ _ _ (by simpa [ByteArray.size] using hi)]
  simp [List.getD, hi]

def Bad (w : World) (S : List UInt8) : Prop := ∀ v W, Below w.heap.size w W → Sc.BReads W v S → Calls Tryz.prog 6 #[v] W fun r w' => (∃ p : Int, r = .returned (.tuple #[.agg #[.slice none 0 0, .slice none 0 0, .slice none 0 0], .agg #[.int .i64 4, .int .i64 p]])) ∧ Below W.heap.size W w'
def Good (w : World) (S : List UInt8) (ob : Ob) : Prop := ∀ v W, Below w.heap.size w W → Sc.BReads W v S → Calls Tryz.prog 6 #[v] W fun e w' => (∃ ca cl cc sa sl sc qa ql qc, e = .returned (.tuple #[.agg #[.slice ca cl cc, .slice sa sl sc, .slice qa ql qc], .agg #[.int .i64 0, .int .i64 0]]) ∧ (OBytes w' (.slice ca cl cc) ob.code ∧ OSyms w' (.slice sa sl sc) ob.syms ∧ ORels w' (.slice qa ql qc) ob.rels)) ∧ Below W.heap.size W w'

structure Tn (w : World) (v : Value) (S : List UInt8) : Prop where
  al : Calls Tryz.prog 4 #[] w fun e w' => e = .returned (.bool true) ∧ Below w.heap.size w w'
  tx : ∀ W, Below w.heap.size w W → Calls Tryz.prog 5 #[v] W fun e w' => e = .returned (.string ⟨S.toArray⟩) ∧ Below W.heap.size W w'
  fd : ∀ W, Calls Tryz.prog 7 #[.string ⟨S.toArray⟩] W fun e w' => e = .returned (.int .i64 ((S.count 10 : Nat) : Int)) ∧ w' = W
  sl : S.length ≤ 1000000000

set_option maxHeartbeats 4000000 in
set_option maxRecDepth 100000 in
theorem turns_long (v : Value) (S : List UInt8) (w : World) (h : Tn w v S) (hB : Bad w S) (hl : 1200 < S.length) :
    Calls Tryz.prog 3 #[v] w fun e w' => e = .returned (.bool true) ∧ Below w.heap.size w w' := by
  have HT := Lib.hid h
  have HB := Lib.hid hB
  have hsz : (1200 : Int) < (S.length : Int) := by omega
  have hcr := fun W => conv_rd W S h.sl
  have HCR := Lib.hid hcr
  have hcv := fun W => Lib.run_convert_string_bytes (P := Tryz.prog) W 9 22 5 ⟨S.toArray⟩ Tryz.underlying9 Tryz.underlying22 Tryz.underlying5
  clear h hB hl hcr
  go_enter Tryz.func3, Tryz.ntmps3
  go_wp2_with (first | (go_at_call 4; refine HT.out.al.mono ?_; rintro e w1 ⟨rfl, hb1⟩; have HB1 := Lib.hid hb1; clear hb1) | (go_at_call 5; refine (HT.out.tx _ HB1.out).mono ?_; rintro e w2 ⟨rfl, hb2⟩; have HB2 := Lib.hid (HB1.out.trans (hb2.mono HB1.out.size)); clear hb2) | fail)
  obtain ⟨hcb, hrd⟩ := HCR.out w2
  have hBW := HB2.out.trans (hcb.mono HB2.out.size)
  refine (HB.out _ _ hBW hrd).mono ?_
  rintro e w3 ⟨⟨pe, rfl⟩, hb3⟩
  have HB3 := Lib.hid (hBW.trans (hb3.mono hBW.size))
  clear hcb hrd hBW hb3 hcv
  go_wp2_with fail
  go_ret
  exact ⟨rfl, by have hb := HB3.out; have hs := HB3.out.size; go_grown⟩

set_option maxHeartbeats 4000000 in
set_option maxRecDepth 100000 in
theorem turns_many (v : Value) (S : List UInt8) (w : World) (h : Tn w v S) (hB : Bad w S) (hl : S.length ≤ 1200) (hn : 200 < S.count 10) :
    Calls Tryz.prog 3 #[v] w fun e w' => e = .returned (.bool true) ∧ Below w.heap.size w w' := by
  have HT := Lib.hid h
  have HB := Lib.hid hB
  have hsz : ¬ (1200 : Int) < (S.length : Int) := by omega
  have hcn : (200 : Int) < ((S.count 10 : Nat) : Int) := by omega
  have hcr := fun W => conv_rd W S h.sl
  have HCR := Lib.hid hcr
  have hcv := fun W => Lib.run_convert_string_bytes (P := Tryz.prog) W 9 22 5 ⟨S.toArray⟩ Tryz.underlying9 Tryz.underlying22 Tryz.underlying5
  clear h hB hl hn hcr
  go_enter Tryz.func3, Tryz.ntmps3
  go_wp2_with (first | (go_at_call 4; refine HT.out.al.mono ?_; rintro e w1 ⟨rfl, hb1⟩; have HB1 := Lib.hid hb1; clear hb1) | (go_at_call 5; refine (HT.out.tx _ HB1.out).mono ?_; rintro e w2 ⟨rfl, hb2⟩; have HB2 := Lib.hid (HB1.out.trans (hb2.mono HB1.out.size)); clear hb2) | fail)
  obtain ⟨hcb, hrd⟩ := HCR.out w2
  have hBW := HB2.out.trans (hcb.mono HB2.out.size)
  refine (HB.out _ _ hBW hrd).mono ?_
  rintro e w3 ⟨⟨pe, rfl⟩, hb3⟩
  have HB3 := Lib.hid (hBW.trans (hb3.mono hBW.size))
  clear hcb hrd hBW hb3 hcv
  go_wp2_with fail
  obtain ⟨W4, hW4⟩ : ∃ X, X = (w3.alloc (.cells #[.slice none 0 0, .slice none 0 0, .slice none 0 0] 28)).alloc (.cells #[.int .i64 4, .int .i64 pe] 31) := ⟨_, rfl⟩
  have HB4 : Hid (Below w.heap.size w W4) := by rw [hW4]; have hb := HB3.out; have hs := HB3.out.size; unfold Hid; go_grown
  have c0 : W4.cell? ⟨w3.heap.size + 1, 0, none⟩ = some (.int .i64 4) := by
    have : W4.heap[w3.heap.size + 1]? = some (.cells #[.int .i64 4, .int .i64 pe] 31 (0, 0)) := by rw [hW4]; exact new_at _ _ (by go_size)
    exact blk_cell this rfl
  have z0 : w3.heap.size + 1 < W4.heap.size := by rw [hW4]; go_size
  rw [← hW4]
  clear hW4 HB3
  refine (HT.out.fd W4).mono ?_
  rintro e _ ⟨rfl, rfl⟩
  generalize S.count 10 = cn at *
  go_wp2_with fail
  go_ret
  exact ⟨rfl, HB4.out⟩

set_option maxHeartbeats 4000000 in
set_option maxRecDepth 100000 in
theorem turns_good (ad : Option Addr) (cap : Nat) (bl : List UInt8) (S : List UInt8) (ob : Ob) (w : World) (h : Tn w (.slice ad bl.length cap) S) (hB : Good w S ob) (hr : Sc.BReads w (.slice ad bl.length cap) bl) (hc : ob.code = bl) (hq : ob.rels = []) (hl : S.length ≤ 1200) (hn : S.count 10 ≤ 200) :
    Calls Tryz.prog 3 #[.slice ad bl.length cap] w fun e w' => e = .returned (.bool true) ∧ Below w.heap.size w w' := by
  have HT := Lib.hid h
  have HB := Lib.hid hB
  have HR := Lib.hid hr
  have hsz : ¬ (1200 : Int) < (S.length : Int) := by omega
  have hcn : ¬ (200 : Int) < ((S.count 10 : Nat) : Int) := by omega
  have hcr := fun W => conv_rd W S h.sl
  have HCR := Lib.hid hcr
  have hcv := fun W => Lib.run_convert_string_bytes (P := Tryz.prog) W 9 22 5 ⟨S.toArray⟩ Tryz.underlying9 Tryz.underlying22 Tryz.underlying5
  clear h hB hl hn hcr hr
  go_enter Tryz.func3, Tryz.ntmps3
  go_wp2_with (first | (go_at_call 4; refine HT.out.al.mono ?_; rintro e w1 ⟨rfl, hb1⟩; have HB1 := Lib.hid hb1; clear hb1) | (go_at_call 5; refine (HT.out.tx _ HB1.out).mono ?_; rintro e w2 ⟨rfl, hb2⟩; have HB2 := Lib.hid (HB1.out.trans (hb2.mono HB1.out.size)); clear hb2) | fail)
  obtain ⟨hcb, hrd⟩ := HCR.out w2
  have hBW := HB2.out.trans (hcb.mono HB2.out.size)
  refine (HB.out _ _ hBW hrd).mono ?_
  rintro e w3 ⟨⟨ca, cl, cc, sa, sl, sc, qa, ql, qc, rfl, h1, h2, h3⟩, hb3⟩
  rw [hc] at h1
  rw [hq] at h3
  have HB3 := Lib.hid (hBW.trans (hb3.mono hBW.size))
  have HC := Lib.hid h1
  obtain ⟨ad3, cp3, e3, _⟩ := id h3
  injection e3 with e3a e3 e3c
  simp only [List.length_nil] at e3
  subst e3 e3a e3c
  clear hcb hrd hBW hb3 hcv h1 h2 h3
  go_wp2_with fail
  obtain ⟨W4, hW4⟩ : ∃ X, X = (w3.alloc (.cells #[.slice ca cl cc, .slice sa sl sc, .slice qa 0 qc] 28)).alloc (.cells #[.int .i64 0, .int .i64 0] 31) := ⟨_, rfl⟩
  have hb4 : Below w3.heap.size w3 W4 := by rw [hW4]; go_grown
  have HB4 : Hid (Below w.heap.size w W4) := HB3.out.trans (hb4.mono HB3.out.size)
  have k1 : (convert 22 9 (.slice ca cl cc)).run Tryz.prog W4 = .ok (.string ⟨bl.toArray⟩) W4 := Sc.conv_bytes (HC.out.below hb4 (Nat.le_refl _))
  have k2 : (convert 22 9 (.slice ad bl.length cap)).run Tryz.prog W4 = .ok (.string ⟨bl.toArray⟩) W4 := Sc.conv_bytes ((show OBytes w (.slice ad bl.length cap) bl from HR.out).below HB4.out (Nat.le_refl _))
  have x0 : W4.heap[w3.heap.size]? = some (.cells #[.slice ca cl cc, .slice sa sl sc, .slice qa 0 qc] 28 (0, 0)) := by rw [hW4, old2 _ _ (by go_size)]; exact new_at _ _ rfl
  have x1 : W4.heap[w3.heap.size + 1]? = some (.cells #[.int .i64 0, .int .i64 0] 31 (0, 0)) := by rw [hW4]; exact new_at _ _ (by go_size)
  have c0 : W4.cell? ⟨w3.heap.size, 0, none⟩ = some (.slice ca cl cc) := blk_cell x0 rfl
  have c2 : W4.cell? ⟨w3.heap.size, 2, none⟩ = some (.slice qa 0 qc) := blk_cell x0 rfl
  have d0 : W4.cell? ⟨w3.heap.size + 1, 0, none⟩ = some (.int .i64 0) := blk_cell x1 rfl
  have z0 : w3.heap.size + 1 < W4.heap.size := by rw [hW4]; go_size
  rw [← hW4]
  clear hW4 HB3 hb4 x0 x1 HC HR HB
  refine (HT.out.fd W4).mono ?_
  rintro e _ ⟨rfl, rfl⟩
  generalize S.count 10 = cn at *
  go_wp2_with fail
  go_ret
  exact ⟨rfl, HB4.out⟩

end Go.Proofs.YtjmjhbdlbmnllaaGreatDoor
