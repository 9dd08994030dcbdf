/- The contract of the function that package scan's reader answers: a sign; and all cases in one. -/
import Derived.Test.YtajeijhmlkbjgaaDoorScanH
namespace Go.Proofs.YtajeijhmlkbjgaaDoor
open Go.RowKit

theorem hasPrefix_len {l p : List UInt8} (h : Lib.hasPrefix l p = true) : p.length ≤ l.length := by
  unfold Lib.hasPrefix at h
  exact (List.isPrefixOf_iff_prefix.1 h).length_le

theorem signN_le (l : List UInt8) : signN l ≤ l.length := by
  unfold signN
  split
  · rename_i h
    rcases h with h | h
    · exact hasPrefix_len h
    · exact hasPrefix_len h
  · split
    · simp
    · split <;> simp

theorem sign_let (s : ByteArray) (w : World) :
    Calls Tryd.prog 65 #[.string s] w fun e w' => e = .returned (.tuple #[.agg #[.int .i64 (if s.size = 0 then 0 else 3), .int .i64 0, .string s], .int .i64 (if s.size = 0 then 2 else 0)]) ∧ Below w.heap.size w w' := by
  by_cases h : s.size = 0
  · have : s = ⟨#[]⟩ := empty_of (List.eq_nil_of_length_eq_zero (by rw [Array.length_toList]; exact h))
    subst this
    refine (sign_none w).mono ?_
    rintro e w' ⟨rfl, hb⟩
    exact ⟨rfl, hb⟩
  · refine (sign_some s (by omega) w).mono ?_
    rintro e w' ⟨rfl, hb⟩
    exact ⟨by rw [if_neg h, if_neg h], hb⟩

def Res3 (w : World) (g : Nat) (a b c : Value) : Prop := (w.cell? ⟨g, 0, none⟩ = some a ∧ w.cell? ⟨g, 1, none⟩ = some b ∧ w.cell? ⟨g, 2, none⟩ = some c) ∧ w.frozen? ⟨g, 0, none⟩ = false ∧ w.frozen? ⟨g, 1, none⟩ = false ∧ w.frozen? ⟨g, 2, none⟩ = false

theorem res_after {w1 w2 : World} {B g : Nat} {v a b c : Value} (hR : Res3 w1 g a b c) (hb : Below (w1.setCell ⟨B, 0, none⟩ v).drew.heap.size (w1.setCell ⟨B, 0, none⟩ v).drew w2) (hgB : g ≠ B) (hg : g < w1.heap.size) : Res3 w2 g a b c := by
  have hk : w2.heap[g]? = w1.heap[g]? := (hb.block g (by simpa using hg)).trans (Below.heap_setCell w1 _ _ g hgB)
  obtain ⟨⟨x0, x1, x2⟩, y0, y1, y2⟩ := hR
  exact ⟨⟨(World.cell?_of_block (w := w1) hk).trans x0, (World.cell?_of_block (w := w1) hk).trans x1, (World.cell?_of_block (w := w1) hk).trans x2⟩,
    (World.frozen?_of_block (w := w1) hk).trans y0, (World.frozen?_of_block (w := w1) hk).trans y1, (World.frozen?_of_block (w := w1) hk).trans y2⟩

theorem rd_after {w1 w2 : World} {B : Nat} {s s' : ByteArray} (hR : Rd w1 B s) (hb : Below (w1.setCell ⟨B, 0, none⟩ (.string s')).drew.heap.size (w1.setCell ⟨B, 0, none⟩ (.string s')).drew w2) : Rd w2 B s' := by
  have h1 := hR.set (s' := s')
  have h2 : Rd (w1.setCell ⟨B, 0, none⟩ (.string s')).drew B s' := ⟨h1.c0, h1.f0, h1.c1, h1.c2⟩
  exact h2.grown hb

theorem grown_after {w w1 w2 : World} {B : Nat} {v : Value} (h : w.grownBy w1 (some B)) (hb : Below (w1.setCell ⟨B, 0, none⟩ v).drew.heap.size (w1.setCell ⟨B, 0, none⟩ v).drew w2) : w.grownBy w2 (some B) := by
  have hsz := h.size
  have hsz2 := hb.size
  simp at hsz2
  refine ⟨hb.os.trans h.os, hb.tape.trans h.tape, hb.output.trans h.output, by omega, fun k hk hne => ?_⟩
  rw [hb.block k (by simp; omega)]
  exact (Below.heap_setCell w1 _ _ k (by intro e; apply hne; simp [e])).trans (h.block k hk hne)

set_option maxHeartbeats 1000000 in
theorem next_sign (s : ByteArray) (B : Nat) (w : World) (hs : s.size ≤ 281474976710656) (hR : Rd w B s) (c : UInt8) (r : List UInt8) (k : Nat) (K E : Int) (hK : K = if k = 0 then 0 else 3) (hE : E = if k = 0 then 2 else 0) (h : s.data.toList.dropWhile (pb blankB) = c :: r) (hk : signN (c :: r) = k) (hl : letterB c.toNat = false) (hd : digitB c.toNat = false) :
    Calls Tryd.prog 60 #[.pointer (some ⟨B + 2, 0, none⟩), .pointer (some ⟨B, 0, none⟩), .pointer (some ⟨B + 1, 0, none⟩)] w fun e w' =>
      e = .returned (.tuple #[tokV ⟨K, 0, (c :: r).take k⟩, .int .i64 E]) ∧ (∃ s' : ByteArray, s'.data.toList = (c :: r).drop k ∧ Rd w' B s') ∧ w.grownBy w' (some B) := by
  have hlt := hR.lt
  go_enter Tryd.func60, Tryd.ntmps60
  have hR0 : Rd (w.alloc (.cells #[.int .i64 0, .int .i64 0, .string ⟨#[]⟩] 84)) B s := hR.grown ((Below.refl _ _).alloc (Nat.le_refl _) _)
  obtain ⟨c0, f0, c1, c2⟩ := hR
  go_wp2_with fail
  refine (take_let s 61 blankB B _ (by omega) enters61 (fun c w => blank_any c w) hR0).mono ?_
  rintro e w1 ⟨rfl, s1, hs1, hR1, hg⟩
  have hsz : s1.size = (c :: r).length := size_of (hs1.trans h)
  have hle : s1.size ≤ s.size := by
    have h1 := size_of hs1
    have h2 := dropWhile_len (p := pb blankB) s.data.toList
    have h3 := size_of (rfl : s.data.toList = _)
    omega
  have HS1 : Hid (s1.data.toList = c :: r) := hs1.trans h
  have hkle : k ≤ s1.size := by have := signN_le (c :: r); omega
  simp only [List.length_cons] at hsz
  have h0 : 0 < s1.size := by omega
  have hne : (s1.toList == []) = false := not_empty (by omega)
  have hsl : ∀ w, Calls Tryd.prog 66 #[.string s1] w fun e w' => e = .returned (.int .i64 k) ∧ w' = w := by
    intro w
    refine (signLength_any s1 h0 w).mono ?_
    rintro e w' ⟨rfl, rfl⟩
    exact ⟨by rw [HS1.out, hk], rfl⟩
  have hat : s1[0] = c := by
    have := drop_at h0
    rw [List.drop_zero, hs1, h] at this
    injection this with h1 _
    exact h1.symm
  have hidx := index9 s1 0 0 rfl h0
  rw [hat] at hidx
  have HX : Hid (s1.extract 0 k = ⟨((c :: r).take k).toArray⟩ ∧ (s1.extract k s1.size).data.toList = (c :: r).drop k ∧ (s1.extract 0 k).size = k) := by
    refine ⟨by rw [extract_take, HS1.out], by rw [extract_drop, HS1.out], ?_⟩
    rw [ByteArray.size_extract]; omega
  have hsg : ∀ w, Calls Tryd.prog 65 #[.string (s1.extract 0 k)] w fun e w' => e = .returned (.tuple #[.agg #[.int .i64 K, .int .i64 0, .string (s1.extract 0 k)], .int .i64 E]) ∧ Below w.heap.size w w' := by
    intro w
    refine (sign_let _ w).mono ?_
    rintro e w' ⟨rfl, hb⟩
    rw [HX.out.2.2, ← hK, ← hE]
    exact ⟨rfl, hb⟩
  clear hk hK hE
  have hres : Hid (Res3 w1 w.heap.size (.int .i64 0) (.int .i64 0) (.string ⟨#[]⟩)) := res_cells hg (by omega)
  have hlt1 : w.heap.size < w1.heap.size := by have := hg.size; simp at this; omega
  have hG : Hid (w.grownBy w1 (some B)) := (World.grownBy_alloc w _ _).trans hg
  have HR1 : Hid (Rd w1 B s1) := hR1
  obtain ⟨c0', f0', c1', c2'⟩ := hR1
  clear hg hs1 hR0 c0 f0 c1 c2 hsz h0 hat
  go_wp2_with (first | (go_at_call 53; refine (letter_any _ _).mono ?_; rintro e w' ⟨rfl, hw⟩; rw [hw]; simp only [hl]) | (go_at_call 50; refine (digit_any _ _).mono ?_; rintro e w' ⟨rfl, hw⟩; rw [hw]; simp only [hd]))
  go_region_with (first | (go_at_call 66; refine (hsl _).mono ?_; rintro e w' ⟨rfl, rfl⟩) | (go_at_call 58; refine (cut_any s1 k B w1.drew hkle c0' f0').mono ?_; rintro e w' ⟨rfl, rfl⟩) | (go_at_call 65; refine (hsg _).mono ?_; rintro e w2 ⟨rfl, hb⟩; have hG2 : Hid (w.grownBy w2 (some B)) := grown_after hG.out hb; have HR2 : Hid (Rd w2 B (s1.extract k s1.size)) := rd_after HR1.out hb; obtain ⟨⟨d0, d1, d2⟩, e0, e1, e2⟩ := res_after hres.out hb (by omega) hlt1; clear hb))
  all_goals
    go_wp2
    refine bodyPost_ret (v := .tuple #[tokV ⟨K, 0, (c :: r).take k⟩, .int .i64 E]) (by simp [results, Tryd.results60, go_sem, d0, d1, d2, tokV, HX.out.1]) rfl ⟨rfl, ⟨_, HX.out.2.1, HR2.out.set3 (by omega) _ _ _⟩, grown_set3 hG2.out _ _ _⟩
end Go.Proofs.YtajeijhmlkbjgaaDoor
