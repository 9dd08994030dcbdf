/- The contract of the function that package scan's reader answers: one more token. The contract of the function that package scan's reader answers: a sign; and all cases in one. -/
import Derived.Test.YtbpoiajpcahdhaaGreatDoorPut29
import Derived.Test.YtbpoiajpcahdhaaGreatDoorPut30
namespace Go.Proofs.YtbpoiajpcahdhaaGreatDoor.Sc
open Go.RowKit

def nxtV : Nxt → Value
  | .fin => .tuple #[tokZ, .int .i64 0]
  | .bad => .tuple #[tokZ, .int .i64 2]
  | .tok t _ => .tuple #[tokV t, .int .i64 0]

theorem Rd.lt {w : World} {B : Nat} {s : ByteArray} (h : Rd w B s) : B + 2 < w.heap.size := World.block_lt_of_cell? w _ h.c2

theorem Rd.grown {w w' : World} {B : Nat} {s : ByteArray} (h : Rd w B s) (hb : Below w.heap.size w w') : Rd w' B s where
  c0 := by rw [hb.cell (by show B < _; have := h.lt; omega)]; exact h.c0
  f0 := by rw [hb.frozen (by show B < _; have := h.lt; omega)]; exact h.f0
  c1 := by rw [hb.cell (by show B + 1 < _; have := h.lt; omega)]; exact h.c1
  c2 := by rw [hb.cell (by show B + 2 < _; have := h.lt; omega)]; exact h.c2

theorem Rd.set {w : World} {B : Nat} {s s' : ByteArray} (h : Rd w B s) : Rd (w.setCell ⟨B, 0, none⟩ (.string s')) B s' where
  c0 := World.cell?_setCell_same _ _ _ h.c0
  f0 := by
    have := h.f0
    simpa using this
  c1 := by rw [World.cell?_setCell_other _ _ _ _ (by intro e; cases e)]; exact h.c1
  c2 := by rw [World.cell?_setCell_other _ _ _ _ (by intro e; cases e)]; exact h.c2

theorem extract_drop (s : ByteArray) (n : Nat) : (s.extract n s.size).data.toList = s.data.toList.drop n := by
  have h : s.data.toList.length = s.size := Array.length_toList
  simp [ByteArray.data_extract]
  rw [List.take_of_length_le (by rw [List.length_drop]; omega)]
theorem extract_take (s : ByteArray) (n : Nat) : s.extract 0 n = ⟨(s.data.toList.take n).toArray⟩ := by
  apply ByteArray.ext
  apply Array.toList_inj.1
  rw [Lib.extract_from_zero]

theorem drop_span (p : Int → Bool) : ∀ l : List UInt8, l.drop (spanL p l) = l.dropWhile (pb p)
  | [] => rfl
  | c :: r => by
    have := drop_span p r
    simp only [spanL, List.takeWhile_cons, List.dropWhile_cons] at this ⊢
    split <;> simp_all
theorem take_span (p : Int → Bool) : ∀ l : List UInt8, l.take (spanL p l) = l.takeWhile (pb p)
  | [] => rfl
  | c :: r => by
    have := take_span p r
    simp only [spanL, List.takeWhile_cons] at this ⊢
    split <;> simp_all

theorem rest_eq (s : ByteArray) (p : Int → Bool) : (s.extract (spanL p s.data.toList) s.size).data.toList = s.data.toList.dropWhile (pb p) := by rw [extract_drop, drop_span]
theorem first_eq (s : ByteArray) (p : Int → Bool) : s.extract 0 (spanL p s.data.toList) = ⟨(s.data.toList.takeWhile (pb p)).toArray⟩ := by rw [extract_take, take_span]

/-- What take does: some world, in which the first part is cut off. -/
theorem take_let (s : ByteArray) (f : FuncId) (p : Int → Bool) (B : Nat) (w : World) (hs : s.size ≤ 9223372036854775000) (he : Enters1 f) (hp : Asks f p) (hR : Rd w B s) :
    Calls Tryz.prog 101 #[.func (.func f) #[] #[], .pointer (some ⟨B + 1, 0, none⟩), .pointer (some ⟨B, 0, none⟩)] w fun e w' =>
      e = .returned (.string ⟨(s.data.toList.takeWhile (pb p)).toArray⟩) ∧ ∃ s' : ByteArray, s'.data.toList = s.data.toList.dropWhile (pb p) ∧ Rd w' B s' ∧ w.grownBy w' (some B) := by
  refine (take_any s f p B w hs he hp hR).mono ?_
  rintro e w' ⟨rfl, rfl⟩
  refine ⟨by rw [first_eq], _, rest_eq s p, ?_, ?_⟩
  · have := hR.set (s' := s.extract (spanL p s.data.toList) s.size)
    exact ⟨this.c0, this.f0, this.c1, this.c2⟩
  · refine ⟨rfl, rfl, rfl, by simp, ?_⟩
    intro k hk hne
    exact Below.heap_setCell w _ _ k (by intro e; apply hne; simp [e])

theorem res_cells {w w1 : World} {B : Nat} {a b c : Value} (hg : (w.alloc (.cells #[a, b, c] 149)).grownBy w1 (some B)) (hB : B < w.heap.size) :
    (w1.cell? ⟨w.heap.size, 0, none⟩ = some a ∧ w1.cell? ⟨w.heap.size, 1, none⟩ = some b ∧ w1.cell? ⟨w.heap.size, 2, none⟩ = some c) ∧ w1.frozen? ⟨w.heap.size, 0, none⟩ = false ∧ w1.frozen? ⟨w.heap.size, 1, none⟩ = false ∧ w1.frozen? ⟨w.heap.size, 2, none⟩ = false := by
  have hb : w1.heap[w.heap.size]? = (w.alloc (.cells #[a, b, c] 149)).heap[w.heap.size]? := hg.block _ (by simp) (by simp; omega)
  refine ⟨⟨?_, ?_, ?_⟩, ?_, ?_, ?_⟩
  · rw [World.cell?_of_block (w := w.alloc (.cells #[a, b, c] 149)) hb]; simp [go_sem]
  · rw [World.cell?_of_block (w := w.alloc (.cells #[a, b, c] 149)) hb]; simp [go_sem]
  · rw [World.cell?_of_block (w := w.alloc (.cells #[a, b, c] 149)) hb]; simp [go_sem]
  · rw [World.frozen?_of_block (w := w.alloc (.cells #[a, b, c] 149)) hb]; simp [go_sem]
  · rw [World.frozen?_of_block (w := w.alloc (.cells #[a, b, c] 149)) hb]; simp [go_sem]
  · rw [World.frozen?_of_block (w := w.alloc (.cells #[a, b, c] 149)) hb]; simp [go_sem]

theorem grown_set {w w1 : World} {row : Option Nat} (h : w.grownBy w1 row) {p : Addr} (hp : w.heap.size ≤ p.block) (v : Value) : w.grownBy (w1.setCell p v) row :=
  ⟨h.os, h.tape, h.output, by simpa using h.size, fun k hk hne => (Below.heap_setCell w1 p v k (by omega)).trans (h.block k hk hne)⟩

theorem grown_set3 {w w1 : World} {row : Option Nat} (h : w.grownBy w1 row) (v0 v1 v2 : Value) : w.grownBy (((w1.setCell ⟨w.heap.size, 0, none⟩ v0).setCell ⟨w.heap.size, 1, none⟩ v1).setCell ⟨w.heap.size, 2, none⟩ v2) row :=
  grown_set (grown_set (grown_set h (by simp) _) (by simp) _) (by simp) _

theorem Rd.set3 {w : World} {B g : Nat} {s : ByteArray} (h : Rd w B s) (hg : B + 2 < g) (v0 v1 v2 : Value) : Rd (((w.setCell ⟨g, 0, none⟩ v0).setCell ⟨g, 1, none⟩ v1).setCell ⟨g, 2, none⟩ v2) B s := by
  have hb : Below g w (((w.setCell ⟨g, 0, none⟩ v0).setCell ⟨g, 1, none⟩ v1).setCell ⟨g, 2, none⟩ v2) := (((Below.refl g w).setCell (by simp) _).setCell (by simp) _).setCell (by simp) _
  exact ⟨by rw [hb.cell (by show B < g; omega)]; exact h.c0, by rw [hb.frozen (by show B < g; omega)]; exact h.f0, by rw [hb.cell (by show B + 1 < g; omega)]; exact h.c1, by rw [hb.cell (by show B + 2 < g; omega)]; exact h.c2⟩

theorem empty_of {s : ByteArray} (h : s.data.toList = []) : s = ⟨#[]⟩ := by
  apply ByteArray.ext
  exact Array.toList_inj.1 h
theorem size_of {s : ByteArray} {l : List UInt8} (h : s.data.toList = l) : s.size = l.length := by rw [← h]; exact Array.length_toList.symm

theorem next_fin (s : ByteArray) (B : Nat) (w : World) (hs : s.size ≤ 9223372036854775000) (hR : Rd w B s) (h : s.data.toList.dropWhile (pb blankB) = []) :
    Calls Tryz.prog 103 #[.pointer (some ⟨B + 2, 0, none⟩), .pointer (some ⟨B, 0, none⟩), .pointer (some ⟨B + 1, 0, none⟩)] w fun e w' =>
      e = .returned (.tuple #[tokZ, .int .i64 0]) ∧ w.grownBy w' (some B) := by
  have hlt := hR.lt
  go_enter Tryz.func103, Tryz.ntmps103
  have hR0 : Rd (w.alloc (.cells #[.int .i64 0, .int .i64 0, .string ⟨#[]⟩] 149)) B s := hR.grown ((Below.refl _ _).alloc (Nat.le_refl _) _)
  obtain ⟨c0, f0, c1, c2⟩ := hR
  go_wp2_with fail
  refine (take_let s 104 blankB B _ hs enters61 (fun c w => blank_any c w) hR0).mono ?_
  rintro e w1 ⟨rfl, s1, hs1, hR1, hg⟩
  have hG : Hid (w.grownBy w1 (some B)) := (World.grownBy_alloc w _ _).trans hg
  obtain ⟨⟨d0, d1, d2⟩, e0, e1, e2⟩ := res_cells hg (by omega)
  have : s1 = ⟨#[]⟩ := empty_of (hs1.trans h)
  subst this
  obtain ⟨c0', f0', c1', c2'⟩ := hR1
  clear hg hs1 hR0 c0 f0 c1 c2
  go_wp2
  exact bodyPost_ret (v := .tuple #[tokZ, .int .i64 0]) (by simp [results, Tryz.results103, go_sem, d0, d1, d2, tokZ]) rfl ⟨rfl, grown_set3 hG.out _ _ _⟩

theorem next_word (s : ByteArray) (B : Nat) (w : World) (hs : s.size ≤ 9223372036854775000) (hR : Rd w B s) (c : UInt8) (r : List UInt8) (h : s.data.toList.dropWhile (pb blankB) = c :: r) (hl : letterB c.toNat = true) :
    Calls Tryz.prog 103 #[.pointer (some ⟨B + 2, 0, none⟩), .pointer (some ⟨B, 0, none⟩), .pointer (some ⟨B + 1, 0, none⟩)] w fun e w' =>
      e = .returned (.tuple #[tokV ⟨1, 0, (c :: r).takeWhile (pb wordB)⟩, .int .i64 0]) ∧ (∃ s' : ByteArray, s'.data.toList = (c :: r).dropWhile (pb wordB) ∧ Rd w' B s') ∧ w.grownBy w' (some B) := by
  have hlt := hR.lt
  go_enter Tryz.func103, Tryz.ntmps103
  have hR0 : Rd (w.alloc (.cells #[.int .i64 0, .int .i64 0, .string ⟨#[]⟩] 149)) B s := hR.grown ((Below.refl _ _).alloc (Nat.le_refl _) _)
  obtain ⟨c0, f0, c1, c2⟩ := hR
  go_wp2_with fail
  refine (take_let s 104 blankB B _ hs enters61 (fun c w => blank_any c w) hR0).mono ?_
  rintro e w1 ⟨rfl, s1, hs1, hR1, hg⟩
  have hsz : s1.size = (c :: r).length := size_of (hs1.trans h)
  have hle : s1.size ≤ s.size := by
    have h1 := size_of hs1
    have h2 := dropWhile_len (p := pb blankB) s.data.toList
    have h3 := size_of (rfl : s.data.toList = _)
    omega
  simp only [List.length_cons] at hsz
  have hne : (s1.toList == []) = false := not_empty (by omega)
  have h0 : 0 < s1.size := by omega
  have hat : s1[0] = c := by
    have := drop_at h0
    rw [List.drop_zero, hs1, h] at this
    injection this with h1 _
    exact h1.symm
  have hidx := index9 s1 0 0 rfl h0
  rw [hat] at hidx
  obtain ⟨c0', f0', c1', c2'⟩ := hR1
  have HR1 : Hid (Rd w1 B s1) := ⟨c0', f0', c1', c2'⟩
  have HS1 : Hid (s1.data.toList = c :: r) := hs1.trans h
  have hG : Hid ((w.alloc (.cells #[.int .i64 0, .int .i64 0, .string ⟨#[]⟩] 149)).grownBy w1 (some B)) := hg
  clear hg hs1 hR0 c0 f0 c1 c2 hsz h0 hat
  go_wp2_with (go_at_call 105; refine (letter_any _ _).mono ?_; rintro e w' ⟨rfl, rfl⟩; simp only [hl])
  refine (take_let s1 106 wordB B _ (by omega) enters62 (fun c w => inWord_any c w) HR1.out).mono ?_
  rintro e w2 ⟨rfl, s2, hs2, hR2, hg2⟩
  rw [HS1.out]
  rw [HS1.out] at hs2
  have hg := hG.out.trans hg2
  have hG2 : Hid (w.grownBy w2 (some B)) := (World.grownBy_alloc w _ _).trans hg
  obtain ⟨⟨d0, d1, d2⟩, e0, e1, e2⟩ := res_cells hg (by omega)
  have HR2 : Hid (Rd w2 B s2) := hR2
  have HS2 := Hid.out (p := s2.data.toList = _) hs2
  clear hg hR2 HR1 HS1 hG hg2 hidx
  go_wp2
  exact bodyPost_ret (v := .tuple #[tokV ⟨1, 0, (c :: r).takeWhile (pb wordB)⟩, .int .i64 0]) (by simp [results, Tryz.results103, go_sem, d0, d1, d2, tokV]) rfl ⟨rfl, ⟨s2, HS2, HR2.out.set3 (by omega) _ _ _⟩, grown_set3 hG2.out _ _ _⟩

theorem next_num (s : ByteArray) (B : Nat) (w : World) (hs : s.size ≤ 281474976710656) (hG0 : Glob w) (hB : max (max 1 6) (max 7 10) < B) (hR : Rd w B s) (c : UInt8) (r : List UInt8) (h : s.data.toList.dropWhile (pb blankB) = c :: r) (hl : letterB c.toNat = false) (hd : digitB c.toNat = true) :
    Calls Tryz.prog 103 #[.pointer (some ⟨B + 2, 0, none⟩), .pointer (some ⟨B, 0, none⟩), .pointer (some ⟨B + 1, 0, none⟩)] w fun e w' =>
      e = .returned (numV ((c :: r).takeWhile (pb numB))) ∧ (∃ s' : ByteArray, s'.data.toList = (c :: r).dropWhile (pb numB) ∧ Rd w' B s') ∧ w.grownBy w' (some B) := by
  have hlt := hR.lt
  go_enter Tryz.func103, Tryz.ntmps103
  have hR0 : Rd (w.alloc (.cells #[.int .i64 0, .int .i64 0, .string ⟨#[]⟩] 149)) B s := hR.grown ((Below.refl _ _).alloc (Nat.le_refl _) _)
  obtain ⟨c0, f0, c1, c2⟩ := hR
  go_wp2_with fail
  refine (take_let s 104 blankB B _ (by omega) enters61 (fun c w => blank_any c w) hR0).mono ?_
  rintro e w1 ⟨rfl, s1, hs1, hR1, hg⟩
  have hsz : s1.size = (c :: r).length := size_of (hs1.trans h)
  have hle : s1.size ≤ s.size := by
    have h1 := size_of hs1
    have h2 := dropWhile_len (p := pb blankB) s.data.toList
    have h3 := size_of (rfl : s.data.toList = _)
    omega
  simp only [List.length_cons] at hsz
  have hne : (s1.toList == []) = false := not_empty (by omega)
  have h0 : 0 < s1.size := by omega
  have hat : s1[0] = c := by
    have := drop_at h0
    rw [List.drop_zero, hs1, h] at this
    injection this with h1 _
    exact h1.symm
  have hidx := index9 s1 0 0 rfl h0
  rw [hat] at hidx
  obtain ⟨c0', f0', c1', c2'⟩ := hR1
  have HR1 : Hid (Rd w1 B s1) := ⟨c0', f0', c1', c2'⟩
  have HS1 : Hid (s1.data.toList = c :: r) := hs1.trans h
  have hG : Hid ((w.alloc (.cells #[.int .i64 0, .int .i64 0, .string ⟨#[]⟩] 149)).grownBy w1 (some B)) := hg
  clear hg hs1 hR0 c0 f0 c1 c2 hsz h0 hat
  go_wp2_with (first | (go_at_call 105; refine (letter_any _ _).mono ?_; rintro e w' ⟨rfl, rfl⟩; simp only [hl]) | (go_at_call 107; refine (digit_any _ _).mono ?_; rintro e w' ⟨rfl, rfl⟩; simp only [hd]))
  refine (take_let s1 109 numB B _ (by omega) enters64 (fun c w => inNumber_any c w) HR1.out).mono ?_
  rintro e w2 ⟨rfl, s2, hs2, hR2, hg2⟩
  rw [HS1.out]
  rw [HS1.out] at hs2
  have hg := hG.out.trans hg2
  have hG2 : Hid (w.grownBy w2 (some B)) := (World.grownBy_alloc w _ _).trans hg
  have hlt2 : w.heap.size < w2.heap.size := by have := hg.size; simp at this; omega
  obtain ⟨⟨d0, d1, d2⟩, e0, e1, e2⟩ := res_cells hg (by omega)
  have hGl : Glob w2 := hG0.below (B := B) ((Below.refl B w).grown hG2.out (by omega) (by intro k hk; cases hk; exact Nat.le_refl _)) hB
  obtain ⟨s3, hs3⟩ : ∃ s3 : ByteArray, s3 = ⟨((c :: r).takeWhile (pb numB)).toArray⟩ := ⟨_, rfl⟩
  have hs3l : s3.data.toList = (c :: r).takeWhile (pb numB) := by rw [hs3]
  have hs3s : s3.size ≤ 281474976710656 := by
    have h1 := size_of hs3l
    have h2 : ((c :: r).takeWhile (pb numB)).length ≤ (c :: r).length := spanL_le numB (c :: r)
    have h3 := size_of HS1.out
    omega
  rw [← hs3]
  have HR2 : Hid (Rd w2 B s2) := hR2
  have HS2 := Hid.out (p := s2.data.toList = _) hs2
  clear hg hR2 HR1 HS1 hG hg2 hidx hs3
  go_wp2_with fail
  refine (number_any s3 hs3s _ hGl).mono ?_
  rintro e w3 ⟨rfl, hb3⟩
  obtain ⟨hc3, hf3⟩ := bcell hb3
  have HR3 : Hid (Rd w3 B s2) := HR2.out.grown hb3
  have hG3 : Hid (w.grownBy w3 (some B)) := hG2.out.trans ⟨hb3.os, hb3.tape, hb3.output, hb3.size, fun k hk _ => hb3.block k hk⟩
  have hlt3 := hb3.size
  clear hb3 HR2 hG2 hGl hG0
  rw [hs3l]
  unfold numV
  cases hn : numL ((c :: r).takeWhile (pb numB)) with
  | none =>
    simp only [tokZ]
    go_wp2
    exact bodyPost_ret (v := .tuple #[tokZ, .int .i64 2]) (by simp [results, Tryz.results103, go_sem, hc3, hlt2, d0, d1, d2, tokZ]) rfl ⟨by rw [numV, hn], ⟨s2, HS2, HR3.out.set3 (by omega) _ _ _⟩, grown_set3 hG3.out _ _ _⟩
  | some n =>
    simp only [tokV]
    go_wp2
    exact bodyPost_ret (v := .tuple #[tokV ⟨2, n, []⟩, .int .i64 0]) (by simp [results, Tryz.results103, go_sem, hc3, hlt2, d0, d1, d2, tokV]) rfl ⟨by rw [numV, hn], ⟨s2, HS2, HR3.out.set3 (by omega) _ _ _⟩, grown_set3 hG3.out _ _ _⟩

end Go.Proofs.YtbpoiajpcahdhaaGreatDoor.Sc

namespace Go.Proofs.YtbpoiajpcahdhaaGreatDoor.Sc
open Go.RowKit

theorem hasPrefix_len {l p : List UInt8} (h : Lib.hasPrefix l p = true) : p.length ≤ l.length := by
  unfold Lib.hasPrefix at h
  exact (List.isPrefixOf_iff_prefix.1 h).length_le

theorem signN_le (l : List UInt8) : signN l ≤ l.length := by
  unfold signN
  split
  · rename_i h
    rcases h with h | h
    · exact hasPrefix_len h
    · exact hasPrefix_len h
  · split
    · simp
    · split <;> simp

theorem sign_let (s : ByteArray) (w : World) :
    Calls Tryz.prog 110 #[.string s] w fun e w' => e = .returned (.tuple #[.agg #[.int .i64 (if s.size = 0 then 0 else 3), .int .i64 0, .string s], .int .i64 (if s.size = 0 then 2 else 0)]) ∧ Below w.heap.size w w' := by
  by_cases h : s.size = 0
  · have : s = ⟨#[]⟩ := empty_of (List.eq_nil_of_length_eq_zero (by rw [Array.length_toList]; exact h))
    subst this
    refine (sign_none w).mono ?_
    rintro e w' ⟨rfl, hb⟩
    exact ⟨rfl, hb⟩
  · refine (sign_some s (by omega) w).mono ?_
    rintro e w' ⟨rfl, hb⟩
    exact ⟨by rw [if_neg h, if_neg h], hb⟩

def Res3 (w : World) (g : Nat) (a b c : Value) : Prop := (w.cell? ⟨g, 0, none⟩ = some a ∧ w.cell? ⟨g, 1, none⟩ = some b ∧ w.cell? ⟨g, 2, none⟩ = some c) ∧ w.frozen? ⟨g, 0, none⟩ = false ∧ w.frozen? ⟨g, 1, none⟩ = false ∧ w.frozen? ⟨g, 2, none⟩ = false

theorem res_after {w1 w2 : World} {B g : Nat} {v a b c : Value} (hR : Res3 w1 g a b c) (hb : Below (w1.setCell ⟨B, 0, none⟩ v).drew.heap.size (w1.setCell ⟨B, 0, none⟩ v).drew w2) (hgB : g ≠ B) (hg : g < w1.heap.size) : Res3 w2 g a b c := by
  have hk : w2.heap[g]? = w1.heap[g]? := (hb.block g (by simpa using hg)).trans (Below.heap_setCell w1 _ _ g hgB)
  obtain ⟨⟨x0, x1, x2⟩, y0, y1, y2⟩ := hR
  exact ⟨⟨(World.cell?_of_block (w := w1) hk).trans x0, (World.cell?_of_block (w := w1) hk).trans x1, (World.cell?_of_block (w := w1) hk).trans x2⟩,
    (World.frozen?_of_block (w := w1) hk).trans y0, (World.frozen?_of_block (w := w1) hk).trans y1, (World.frozen?_of_block (w := w1) hk).trans y2⟩

theorem rd_after {w1 w2 : World} {B : Nat} {s s' : ByteArray} (hR : Rd w1 B s) (hb : Below (w1.setCell ⟨B, 0, none⟩ (.string s')).drew.heap.size (w1.setCell ⟨B, 0, none⟩ (.string s')).drew w2) : Rd w2 B s' := by
  have h1 := hR.set (s' := s')
  have h2 : Rd (w1.setCell ⟨B, 0, none⟩ (.string s')).drew B s' := ⟨h1.c0, h1.f0, h1.c1, h1.c2⟩
  exact h2.grown hb

theorem grown_after {w w1 w2 : World} {B : Nat} {v : Value} (h : w.grownBy w1 (some B)) (hb : Below (w1.setCell ⟨B, 0, none⟩ v).drew.heap.size (w1.setCell ⟨B, 0, none⟩ v).drew w2) : w.grownBy w2 (some B) := by
  have hsz := h.size
  have hsz2 := hb.size
  simp at hsz2
  refine ⟨hb.os.trans h.os, hb.tape.trans h.tape, hb.output.trans h.output, by omega, fun k hk hne => ?_⟩
  rw [hb.block k (by simp; omega)]
  exact (Below.heap_setCell w1 _ _ k (by intro e; apply hne; simp [e])).trans (h.block k hk hne)

set_option maxHeartbeats 1000000 in
theorem next_sign (s : ByteArray) (B : Nat) (w : World) (hs : s.size ≤ 281474976710656) (hR : Rd w B s) (c : UInt8) (r : List UInt8) (k : Nat) (K E : Int) (hK : K = if k = 0 then 0 else 3) (hE : E = if k = 0 then 2 else 0) (h : s.data.toList.dropWhile (pb blankB) = c :: r) (hk : signN (c :: r) = k) (hl : letterB c.toNat = false) (hd : digitB c.toNat = false) :
    Calls Tryz.prog 103 #[.pointer (some ⟨B + 2, 0, none⟩), .pointer (some ⟨B, 0, none⟩), .pointer (some ⟨B + 1, 0, none⟩)] w fun e w' =>
      e = .returned (.tuple #[tokV ⟨K, 0, (c :: r).take k⟩, .int .i64 E]) ∧ (∃ s' : ByteArray, s'.data.toList = (c :: r).drop k ∧ Rd w' B s') ∧ w.grownBy w' (some B) := by
  have hlt := hR.lt
  go_enter Tryz.func103, Tryz.ntmps103
  have hR0 : Rd (w.alloc (.cells #[.int .i64 0, .int .i64 0, .string ⟨#[]⟩] 149)) B s := hR.grown ((Below.refl _ _).alloc (Nat.le_refl _) _)
  obtain ⟨c0, f0, c1, c2⟩ := hR
  go_wp2_with fail
  refine (take_let s 104 blankB B _ (by omega) enters61 (fun c w => blank_any c w) hR0).mono ?_
  rintro e w1 ⟨rfl, s1, hs1, hR1, hg⟩
  have hsz : s1.size = (c :: r).length := size_of (hs1.trans h)
  have hle : s1.size ≤ s.size := by
    have h1 := size_of hs1
    have h2 := dropWhile_len (p := pb blankB) s.data.toList
    have h3 := size_of (rfl : s.data.toList = _)
    omega
  have HS1 : Hid (s1.data.toList = c :: r) := hs1.trans h
  have hkle : k ≤ s1.size := by have := signN_le (c :: r); omega
  simp only [List.length_cons] at hsz
  have h0 : 0 < s1.size := by omega
  have hne : (s1.toList == []) = false := not_empty (by omega)
  have hsl : ∀ w, Calls Tryz.prog 111 #[.string s1] w fun e w' => e = .returned (.int .i64 k) ∧ w' = w := by
    intro w
    refine (signLength_any s1 h0 w).mono ?_
    rintro e w' ⟨rfl, rfl⟩
    exact ⟨by rw [HS1.out, hk], rfl⟩
  have hat : s1[0] = c := by
    have := drop_at h0
    rw [List.drop_zero, hs1, h] at this
    injection this with h1 _
    exact h1.symm
  have hidx := index9 s1 0 0 rfl h0
  rw [hat] at hidx
  have HX : Hid (s1.extract 0 k = ⟨((c :: r).take k).toArray⟩ ∧ (s1.extract k s1.size).data.toList = (c :: r).drop k ∧ (s1.extract 0 k).size = k) := by
    refine ⟨by rw [extract_take, HS1.out], by rw [extract_drop, HS1.out], ?_⟩
    rw [ByteArray.size_extract]; omega
  have hsg : ∀ w, Calls Tryz.prog 110 #[.string (s1.extract 0 k)] w fun e w' => e = .returned (.tuple #[.agg #[.int .i64 K, .int .i64 0, .string (s1.extract 0 k)], .int .i64 E]) ∧ Below w.heap.size w w' := by
    intro w
    refine (sign_let _ w).mono ?_
    rintro e w' ⟨rfl, hb⟩
    rw [HX.out.2.2, ← hK, ← hE]
    exact ⟨rfl, hb⟩
  clear hk hK hE
  have hres : Hid (Res3 w1 w.heap.size (.int .i64 0) (.int .i64 0) (.string ⟨#[]⟩)) := res_cells hg (by omega)
  have hlt1 : w.heap.size < w1.heap.size := by have := hg.size; simp at this; omega
  have hG : Hid (w.grownBy w1 (some B)) := (World.grownBy_alloc w _ _).trans hg
  have HR1 : Hid (Rd w1 B s1) := hR1
  obtain ⟨c0', f0', c1', c2'⟩ := hR1
  clear hg hs1 hR0 c0 f0 c1 c2 hsz h0 hat
  go_wp2_with (first | (go_at_call 105; refine (letter_any _ _).mono ?_; rintro e w' ⟨rfl, hw⟩; rw [hw]; simp only [hl]) | (go_at_call 107; refine (digit_any _ _).mono ?_; rintro e w' ⟨rfl, hw⟩; rw [hw]; simp only [hd]))
  go_region_with (first | (go_at_call 111; refine (hsl _).mono ?_; rintro e w' ⟨rfl, rfl⟩) | (go_at_call 100; refine (cut_any s1 k B w1.drew hkle c0' f0').mono ?_; rintro e w' ⟨rfl, rfl⟩) | (go_at_call 110; refine (hsg _).mono ?_; rintro e w2 ⟨rfl, hb⟩; have hG2 : Hid (w.grownBy w2 (some B)) := grown_after hG.out hb; have HR2 : Hid (Rd w2 B (s1.extract k s1.size)) := rd_after HR1.out hb; obtain ⟨⟨d0, d1, d2⟩, e0, e1, e2⟩ := res_after hres.out hb (by omega) hlt1; clear hb))
  all_goals
    go_wp2
    refine bodyPost_ret (v := .tuple #[tokV ⟨K, 0, (c :: r).take k⟩, .int .i64 E]) (by simp [results, Tryz.results103, go_sem, d0, d1, d2, tokV, HX.out.1]) rfl ⟨rfl, ⟨_, HX.out.2.1, HR2.out.set3 (by omega) _ _ _⟩, grown_set3 hG2.out _ _ _⟩
end Go.Proofs.YtbpoiajpcahdhaaGreatDoor.Sc
