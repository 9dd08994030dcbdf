import Derived.Test.YtgjmbjahgcndnaaGreatDoorPut25
import Derived.Lib.IndexBytes
import Derived.Lib.SmallJoins
set_option maxHeartbeats 1000000
namespace Go.Proofs.YtgjmbjahgcndnaaGreatDoor.Sc
open Go.RowKit
def nxtV : Nxt -> Value
 | .fin => .tuple #[tokZ, .int .i64 0]
 | .bad => .tuple #[tokZ, .int .i64 2]
 | .tok t _ => .tuple #[tokV t, .int .i64 0]
theorem Rd.lt {w : World} {B : Nat} {s : ByteArray} (h : Rd w B s) : B + 2 < w.heap.size := World.block_lt_of_cell? w _ h.c2
theorem Rd.grown {w w' : World} {B : Nat} {s : ByteArray} (h : Rd w B s) (hb : Below w.heap.size w w') : Rd w' B s where
 c0 := by rw [hb.cell (by show B < _; have := h.lt; omega)]; exact h.c0
 f0 := by rw [hb.frozen (by show B < _; have := h.lt; omega)]; exact h.f0
 c1 := by rw [hb.cell (by show B + 1 < _; have := h.lt; omega)]; exact h.c1
 c2 := by rw [hb.cell (by show B + 2 < _; have := h.lt; omega)]; exact h.c2
theorem Rd.set {w : World} {B : Nat} {s s' : ByteArray} (h : Rd w B s) : Rd (w.setCell ⟨B, 0, none⟩ (.string s')) B s' where
 c0 := World.cell?_setCell_same _ _ _ h.c0
 f0 := by
  have := h.f0
  simpa using this
 c1 := by rw [World.cell?_setCell_other _ _ _ _ (by intro e; cases e)]; exact h.c1
 c2 := by rw [World.cell?_setCell_other _ _ _ _ (by intro e; cases e)]; exact h.c2
theorem qDb (s : ByteArray) (n : Nat) : (s.extract n s.size).data.toList = s.data.toList.drop n := by
 have h : s.data.toList.length = s.size := Array.length_toList
 simp [ByteArray.data_extract]
 rw [List.take_of_length_le (by rw [List.length_drop]; omega)]
theorem qDa (s : ByteArray) (n : Nat) : s.extract 0 n = ⟨(s.data.toList.take n).toArray⟩ := by
 apply ByteArray.ext
 apply Array.toList_inj.1
 rw [Lib.extract_from_zero]
theorem qFU (p : Int -> Bool) : ∀ l : List UInt8, l.drop (qW p l) = l.dropWhile (pb p)
 | [] => rfl
 | c :: r => by
   have := qFU p r
   simp only [qW, List.takeWhile_cons, List.dropWhile_cons] at this ⊢
   split <;> simp_all
theorem qF3 (p : Int -> Bool) : ∀ l : List UInt8, l.take (qW p l) = l.takeWhile (pb p)
 | [] => rfl
 | c :: r => by
   have := qF3 p r
   simp only [qW, List.takeWhile_cons] at this ⊢
   split <;> simp_all
theorem rest_eq (s : ByteArray) (p : Int -> Bool) : (s.extract (qW p s.data.toList) s.size).data.toList = s.data.toList.dropWhile (pb p) := by rw [qDb, qFU]
theorem first_eq (s : ByteArray) (p : Int -> Bool) : s.extract 0 (qW p s.data.toList) = ⟨(s.data.toList.takeWhile (pb p)).toArray⟩ := by rw [qDa, qF3]
theorem qCZ (s : ByteArray) (f : FuncId) (p : Int -> Bool) (B : Nat) (w : World) (hs : s.size <= 9223372036854775000) (he : qAz f) (hp : Asks f p) (hR : Rd w B s) :
  Calls Tryz.prog 110 #[.func (.func f) #[] #[], .pointer (some ⟨B + 1, 0, none⟩), .pointer (some ⟨B, 0, none⟩)] w fun e w' =>
   e = .returned (.string ⟨(s.data.toList.takeWhile (pb p)).toArray⟩) /\ ∃ s' : ByteArray, s'.data.toList = s.data.toList.dropWhile (pb p) /\ Rd w' B s' /\ w.grownBy w' (some B) := by
 refine (take_any s f p B w hs he hp hR).mono ?_
 rintro e w' ⟨rfl, rfl⟩
 refine ⟨by rw [first_eq], _, rest_eq s p, ?_, ?_⟩
 ·have := hR.set (s' := s.extract (qW p s.data.toList) s.size)
  exact ⟨this.c0, this.f0, this.c1, this.c2⟩
 ·refine ⟨rfl, rfl, rfl, by simp, ?_⟩
  intro k hk hne
  exact Below.heap_setCell w _ _ k (by intro e; apply hne; simp [e])
theorem qC1 {w w1 : World} {B : Nat} {a b c : Value} (hg : (w.alloc (.cells #[a, b, c] 171)).grownBy w1 (some B)) (hB : B < w.heap.size) :
  (w1.cell? ⟨w.heap.size, 0, none⟩ = some a /\ w1.cell? ⟨w.heap.size, 1, none⟩ = some b /\ w1.cell? ⟨w.heap.size, 2, none⟩ = some c) /\ w1.frozen? ⟨w.heap.size, 0, none⟩ = false /\ w1.frozen? ⟨w.heap.size, 1, none⟩ = false /\ w1.frozen? ⟨w.heap.size, 2, none⟩ = false := by
 have hb : w1.heap[w.heap.size]? = (w.alloc (.cells #[a, b, c] 171)).heap[w.heap.size]? := hg.block _ (by simp) (by simp; omega)
 refine ⟨⟨?_, ?_, ?_⟩, ?_, ?_, ?_⟩
 ·rw [World.cell?_of_block (w := w.alloc (.cells #[a, b, c] 171)) hb]; simp [go_sem]
 ·rw [World.cell?_of_block (w := w.alloc (.cells #[a, b, c] 171)) hb]; simp [go_sem]
 ·rw [World.cell?_of_block (w := w.alloc (.cells #[a, b, c] 171)) hb]; simp [go_sem]
 ·rw [World.frozen?_of_block (w := w.alloc (.cells #[a, b, c] 171)) hb]; simp [go_sem]
 ·rw [World.frozen?_of_block (w := w.alloc (.cells #[a, b, c] 171)) hb]; simp [go_sem]
 ·rw [World.frozen?_of_block (w := w.alloc (.cells #[a, b, c] 171)) hb]; simp [go_sem]
theorem qD0 {w w1 : World} {row : Option Nat} (h : w.grownBy w1 row) {p : Addr} (hp : w.heap.size <= p.block) (v : Value) : w.grownBy (w1.setCell p v) row :=
 ⟨h.os, h.tape, h.output, by simpa using h.size, fun k hk hne => (Below.heap_setCell w1 p v k (by omega)).trans (h.block k hk hne)⟩
theorem qBm {w w1 : World} {row : Option Nat} (h : w.grownBy w1 row) (v0 v1 v2 : Value) : w.grownBy (((w1.setCell ⟨w.heap.size, 0, none⟩ v0).setCell ⟨w.heap.size, 1, none⟩ v1).setCell ⟨w.heap.size, 2, none⟩ v2) row :=
 qD0 (qD0 (qD0 h (by simp) _) (by simp) _) (by simp) _
theorem Rd.set3 {w : World} {B g : Nat} {s : ByteArray} (h : Rd w B s) (hg : B + 2 < g) (v0 v1 v2 : Value) : Rd (((w.setCell ⟨g, 0, none⟩ v0).setCell ⟨g, 1, none⟩ v1).setCell ⟨g, 2, none⟩ v2) B s := by
 have hb : Below g w (((w.setCell ⟨g, 0, none⟩ v0).setCell ⟨g, 1, none⟩ v1).setCell ⟨g, 2, none⟩ v2) := (((Below.refl g w).setCell (by simp) _).setCell (by simp) _).setCell (by simp) _
 exact ⟨by rw [hb.cell (by show B < g; omega)]; exact h.c0, by rw [hb.frozen (by show B < g; omega)]; exact h.f0, by rw [hb.cell (by show B + 1 < g; omega)]; exact h.c1, by rw [hb.cell (by show B + 2 < g; omega)]; exact h.c2⟩
theorem qCc {s : ByteArray} (h : s.data.toList = []) : s = ⟨#[]⟩ := by
 apply ByteArray.ext
 exact Array.toList_inj.1 h
theorem qAQ {s : ByteArray} {l : List UInt8} (h : s.data.toList = l) : s.size = l.length := by rw [<- h]; exact Array.length_toList.symm
theorem next_fin (s : ByteArray) (B : Nat) (w : World) (hs : s.size <= 9223372036854775000) (hR : Rd w B s) (h : s.data.toList.dropWhile (pb qAP) = []) :
  Calls Tryz.prog 111 #[.pointer (some ⟨B + 2, 0, none⟩), .pointer (some ⟨B, 0, none⟩), .pointer (some ⟨B + 1, 0, none⟩)] w fun e w' =>
   e = .returned (.tuple #[tokZ, .int .i64 0]) /\ w.grownBy w' (some B) := by
 have hlt := hR.lt
 go_enter Tryz.func111, Tryz.ntmps111
 have hR0 : Rd (w.alloc (.cells #[.int .i64 0, .int .i64 0, .string ⟨#[]⟩] 171)) B s := hR.grown ((Below.refl _ _).alloc (Nat.le_refl _) _)
 obtain ⟨c0, f0, c1, c2⟩ := hR
 go_wp2_with fail
 refine (qCZ s 112 qAP B _ hs enters61 (fun c w => qC8 c w) hR0).mono ?_
 rintro e w1 ⟨rfl, s1, hs1, hR1, hg⟩
 have hG : Hid (w.grownBy w1 (some B)) := (World.grownBy_alloc w _ _).trans hg
 obtain ⟨⟨d0, d1, d2⟩, e0, e1, e2⟩ := qC1 hg (by omega)
 have : s1 = ⟨#[]⟩ := qCc (hs1.trans h)
 subst this
 obtain ⟨c0', f0', c1', c2'⟩ := hR1
 clear hg hs1 hR0 c0 f0 c1 c2
 go_wp2
 exact bodyPost_ret (v := .tuple #[tokZ, .int .i64 0]) (by simp [results, Tryz.results111, go_sem, d0, d1, d2, tokZ]) rfl ⟨rfl, qBm hG.out _ _ _⟩
theorem qLQ (s : ByteArray) (B : Nat) (w : World) (hs : s.size <= 9223372036854775000) (hR : Rd w B s) (c : UInt8) (r : List UInt8) (h : s.data.toList.dropWhile (pb qAP) = c :: r) (hl : qy c.toNat = true) :
  Calls Tryz.prog 111 #[.pointer (some ⟨B + 2, 0, none⟩), .pointer (some ⟨B, 0, none⟩), .pointer (some ⟨B + 1, 0, none⟩)] w fun e w' =>
   e = .returned (.tuple #[tokV ⟨1, 0, (c :: r).takeWhile (pb qCP)⟩, .int .i64 0]) /\ (∃ s' : ByteArray, s'.data.toList = (c :: r).dropWhile (pb qCP) /\ Rd w' B s') /\ w.grownBy w' (some B) := by
 have hlt := hR.lt
 go_enter Tryz.func111, Tryz.ntmps111
 have hR0 : Rd (w.alloc (.cells #[.int .i64 0, .int .i64 0, .string ⟨#[]⟩] 171)) B s := hR.grown ((Below.refl _ _).alloc (Nat.le_refl _) _)
 obtain ⟨c0, f0, c1, c2⟩ := hR
 go_wp2_with fail
 refine (qCZ s 112 qAP B _ hs enters61 (fun c w => qC8 c w) hR0).mono ?_
 rintro e w1 ⟨rfl, s1, hs1, hR1, hg⟩
 have hsz : s1.size = (c :: r).length := qAQ (hs1.trans h)
 have hle : s1.size <= s.size := by
  have h1 := qAQ hs1
  have h2 := qAA (p := pb qAP) s.data.toList
  have h3 := qAQ (rfl : s.data.toList = _)
  omega
 simp only [List.length_cons] at hsz
 have hne : (s1.toList == []) = false := qCC (by omega)
 have h0 : 0 < s1.size := by omega
 have hat : s1[0] = c := by
  have := qA9 h0
  rw [List.drop_zero, hs1, h] at this
  injection this with h1 _
  exact h1.symm
 have hidx := index9 s1 0 0 rfl h0
 rw [hat] at hidx
 obtain ⟨c0', f0', c1', c2'⟩ := hR1
 have HR1 : Hid (Rd w1 B s1) := ⟨c0', f0', c1', c2'⟩
 have HS1 : Hid (s1.data.toList = c :: r) := hs1.trans h
 have hG : Hid ((w.alloc (.cells #[.int .i64 0, .int .i64 0, .string ⟨#[]⟩] 171)).grownBy w1 (some B)) := hg
 clear hg hs1 hR0 c0 f0 c1 c2 hsz h0 hat
 go_wp2_with (go_at_call 102; refine (qw _ _).mono ?_; rintro e w' ⟨rfl, rfl⟩; simp only [hl])
 refine (qCZ s1 113 qCP B _ (by omega) enters62 (fun c w => qJH c w) HR1.out).mono ?_
 rintro e w2 ⟨rfl, s2, hs2, hR2, hg2⟩
 rw [HS1.out]
 rw [HS1.out] at hs2
 have hg := hG.out.trans hg2
 have hG2 : Hid (w.grownBy w2 (some B)) := (World.grownBy_alloc w _ _).trans hg
 obtain ⟨⟨d0, d1, d2⟩, e0, e1, e2⟩ := qC1 hg (by omega)
 have HR2 : Hid (Rd w2 B s2) := hR2
 have HS2 := Hid.out (p := s2.data.toList = _) hs2
 clear hg hR2 HR1 HS1 hG hg2 hidx
 go_wp2
 exact bodyPost_ret (v := .tuple #[tokV ⟨1, 0, (c :: r).takeWhile (pb qCP)⟩, .int .i64 0]) (by simp [results, Tryz.results111, go_sem, d0, d1, d2, tokV]) rfl ⟨rfl, ⟨s2, HS2, HR2.out.set3 (by omega) _ _ _⟩, qBm hG2.out _ _ _⟩
theorem qE0 (s : ByteArray) (B : Nat) (w : World) (hs : s.size <= 281474976710656) (hG0 : Glob w) (hB : max (max 5 9) (max 10 0) < B) (hR : Rd w B s) (c : UInt8) (r : List UInt8) (h : s.data.toList.dropWhile (pb qAP) = c :: r) (hl : qy c.toNat = false) (hd : qAK c.toNat = true) :
  Calls Tryz.prog 111 #[.pointer (some ⟨B + 2, 0, none⟩), .pointer (some ⟨B, 0, none⟩), .pointer (some ⟨B + 1, 0, none⟩)] w fun e w' =>
   e = .returned (numV ((c :: r).takeWhile (pb numB))) /\ (∃ s' : ByteArray, s'.data.toList = (c :: r).dropWhile (pb numB) /\ Rd w' B s') /\ w.grownBy w' (some B) := by
 have hlt := hR.lt
 go_enter Tryz.func111, Tryz.ntmps111
 have hR0 : Rd (w.alloc (.cells #[.int .i64 0, .int .i64 0, .string ⟨#[]⟩] 171)) B s := hR.grown ((Below.refl _ _).alloc (Nat.le_refl _) _)
 obtain ⟨c0, f0, c1, c2⟩ := hR
 go_wp2_with fail
 refine (qCZ s 112 qAP B _ (by omega) enters61 (fun c w => qC8 c w) hR0).mono ?_
 rintro e w1 ⟨rfl, s1, hs1, hR1, hg⟩
 have hsz : s1.size = (c :: r).length := qAQ (hs1.trans h)
 have hle : s1.size <= s.size := by
  have h1 := qAQ hs1
  have h2 := qAA (p := pb qAP) s.data.toList
  have h3 := qAQ (rfl : s.data.toList = _)
  omega
 simp only [List.length_cons] at hsz
 have hne : (s1.toList == []) = false := qCC (by omega)
 have h0 : 0 < s1.size := by omega
 have hat : s1[0] = c := by
  have := qA9 h0
  rw [List.drop_zero, hs1, h] at this
  injection this with h1 _
  exact h1.symm
 have hidx := index9 s1 0 0 rfl h0
 rw [hat] at hidx
 obtain ⟨c0', f0', c1', c2'⟩ := hR1
 have HR1 : Hid (Rd w1 B s1) := ⟨c0', f0', c1', c2'⟩
 have HS1 : Hid (s1.data.toList = c :: r) := hs1.trans h
 have hG : Hid ((w.alloc (.cells #[.int .i64 0, .int .i64 0, .string ⟨#[]⟩] 171)).grownBy w1 (some B)) := hg
 clear hg hs1 hR0 c0 f0 c1 c2 hsz h0 hat
 go_wp2_with (first | (go_at_call 102; refine (qw _ _).mono ?_; rintro e w' ⟨rfl, rfl⟩; simp only [hl]) | (go_at_call 99; refine (qAG _ _).mono ?_; rintro e w' ⟨rfl, rfl⟩; simp only [hd]))
 refine (qCZ s1 115 numB B _ (by omega) enters64 (fun c w => qGM c w) HR1.out).mono ?_
 rintro e w2 ⟨rfl, s2, hs2, hR2, hg2⟩
 rw [HS1.out]
 rw [HS1.out] at hs2
 have hg := hG.out.trans hg2
 have hG2 : Hid (w.grownBy w2 (some B)) := (World.grownBy_alloc w _ _).trans hg
 have hlt2 : w.heap.size < w2.heap.size := by have := hg.size; simp at this; omega
 obtain ⟨⟨d0, d1, d2⟩, e0, e1, e2⟩ := qC1 hg (by omega)
 have hGl : Glob w2 := hG0.below (B := B) ((Below.refl B w).grown hG2.out (by omega) (by intro k hk; cases hk; exact Nat.le_refl _)) hB
 obtain ⟨s3, hs3⟩ : ∃ s3 : ByteArray, s3 = ⟨((c :: r).takeWhile (pb numB)).toArray⟩ := ⟨_, rfl⟩
 have hs3l : s3.data.toList = (c :: r).takeWhile (pb numB) := by rw [hs3]
 have hs3s : s3.size <= 281474976710656 := by
  have h1 := qAQ hs3l
  have h2 : ((c :: r).takeWhile (pb numB)).length <= (c :: r).length := qE6 numB (c :: r)
  have h3 := qAQ HS1.out
  omega
 rw [<- hs3]
 have HR2 : Hid (Rd w2 B s2) := hR2
 have HS2 := Hid.out (p := s2.data.toList = _) hs2
 clear hg hR2 HR1 HS1 hG hg2 hidx hs3
 go_wp2_with fail
 refine (qAI s3 hs3s _ hGl).mono ?_
 rintro e w3 ⟨rfl, hb3⟩
 obtain ⟨hc3, hf3⟩ := bcell hb3
 have HR3 : Hid (Rd w3 B s2) := HR2.out.grown hb3
 have hG3 : Hid (w.grownBy w3 (some B)) := hG2.out.trans ⟨hb3.os, hb3.tape, hb3.output, hb3.size, fun k hk _ => hb3.block k hk⟩
 have hlt3 := hb3.size
 clear hb3 HR2 hG2 hGl hG0
 rw [hs3l]
 unfold numV
 cases hn : numL ((c :: r).takeWhile (pb numB)) with
 | none =>
   simp only [tokZ]
   go_wp2
   exact bodyPost_ret (v := .tuple #[tokZ, .int .i64 2]) (by simp [results, Tryz.results111, go_sem, hc3, hlt2, d0, d1, d2, tokZ]) rfl ⟨by rw [numV, hn], ⟨s2, HS2, HR3.out.set3 (by omega) _ _ _⟩, qBm hG3.out _ _ _⟩
 | some n =>
   simp only [tokV]
   go_wp2
   exact bodyPost_ret (v := .tuple #[tokV ⟨2, n, []⟩, .int .i64 0]) (by simp [results, Tryz.results111, go_sem, hc3, hlt2, d0, d1, d2, tokV]) rfl ⟨by rw [numV, hn], ⟨s2, HS2, HR3.out.set3 (by omega) _ _ _⟩, qBm hG3.out _ _ _⟩
theorem qC4 {l p : List UInt8} (h : Lib.hasPrefix l p = true) : p.length <= l.length := by
 unfold Lib.hasPrefix at h
 exact (List.isPrefixOf_iff_prefix.1 h).length_le
theorem signN_le (l : List UInt8) : qBh l <= l.length := by
 unfold qBh
 split
 ·rename_i h
  rcases h with h | h
  ·exact qC4 h
  ·exact qC4 h
 ·split
  ·simp
  ·split <;> simp
theorem sign_let (s : ByteArray) (w : World) :
  Calls Tryz.prog 116 #[.string s] w fun e w' => e = .returned (.tuple #[.agg #[.int .i64 (if s.size = 0 then 0 else 3), .int .i64 0, .string s], .int .i64 (if s.size = 0 then 2 else 0)]) /\ Below w.heap.size w w' := by
 by_cases h : s.size = 0
 ·have : s = ⟨#[]⟩ := qCc (List.eq_nil_of_length_eq_zero (by rw [Array.length_toList]; exact h))
  subst this
  refine (qKw w).mono ?_
  rintro e w' ⟨rfl, hb⟩
  exact ⟨rfl, hb⟩
 ·refine (qK4 s (by omega) w).mono ?_
  rintro e w' ⟨rfl, hb⟩
  exact ⟨by rw [if_neg h, if_neg h], hb⟩
def Res3 (w : World) (g : Nat) (a b c : Value) : Prop := (w.cell? ⟨g, 0, none⟩ = some a /\ w.cell? ⟨g, 1, none⟩ = some b /\ w.cell? ⟨g, 2, none⟩ = some c) /\ w.frozen? ⟨g, 0, none⟩ = false /\ w.frozen? ⟨g, 1, none⟩ = false /\ w.frozen? ⟨g, 2, none⟩ = false
theorem qJj {w1 w2 : World} {B g : Nat} {v a b c : Value} (hR : Res3 w1 g a b c) (hb : Below (w1.setCell ⟨B, 0, none⟩ v).drew.heap.size (w1.setCell ⟨B, 0, none⟩ v).drew w2) (hgB : g ≠ B) (hg : g < w1.heap.size) : Res3 w2 g a b c := by
 have hk : w2.heap[g]? = w1.heap[g]? := (hb.block g (by simpa using hg)).trans (Below.heap_setCell w1 _ _ g hgB)
 obtain ⟨⟨x0, x1, x2⟩, y0, y1, y2⟩ := hR
 exact ⟨⟨(World.cell?_of_block (w := w1) hk).trans x0, (World.cell?_of_block (w := w1) hk).trans x1, (World.cell?_of_block (w := w1) hk).trans x2⟩,
  (World.frozen?_of_block (w := w1) hk).trans y0, (World.frozen?_of_block (w := w1) hk).trans y1, (World.frozen?_of_block (w := w1) hk).trans y2⟩
theorem rd_after {w1 w2 : World} {B : Nat} {s s' : ByteArray} (hR : Rd w1 B s) (hb : Below (w1.setCell ⟨B, 0, none⟩ (.string s')).drew.heap.size (w1.setCell ⟨B, 0, none⟩ (.string s')).drew w2) : Rd w2 B s' := by
 have h1 := hR.set (s' := s')
 have h2 : Rd (w1.setCell ⟨B, 0, none⟩ (.string s')).drew B s' := ⟨h1.c0, h1.f0, h1.c1, h1.c2⟩
 exact h2.grown hb
theorem qGT {w w1 w2 : World} {B : Nat} {v : Value} (h : w.grownBy w1 (some B)) (hb : Below (w1.setCell ⟨B, 0, none⟩ v).drew.heap.size (w1.setCell ⟨B, 0, none⟩ v).drew w2) : w.grownBy w2 (some B) := by
 have hsz := h.size
 have hsz2 := hb.size
 simp at hsz2
 refine ⟨hb.os.trans h.os, hb.tape.trans h.tape, hb.output.trans h.output, by omega, fun k hk hne => ?_⟩
 rw [hb.block k (by simp; omega)]
 exact (Below.heap_setCell w1 _ _ k (by intro e; apply hne; simp [e])).trans (h.block k hk hne)
theorem qDr (s : ByteArray) (B : Nat) (w : World) (hs : s.size <= 281474976710656) (hR : Rd w B s) (c : UInt8) (r : List UInt8) (k : Nat) (K E : Int) (hK : K = if k = 0 then 0 else 3) (hE : E = if k = 0 then 2 else 0) (h : s.data.toList.dropWhile (pb qAP) = c :: r) (hk : qBh (c :: r) = k) (hl : qy c.toNat = false) (hd : qAK c.toNat = false) :
  Calls Tryz.prog 111 #[.pointer (some ⟨B + 2, 0, none⟩), .pointer (some ⟨B, 0, none⟩), .pointer (some ⟨B + 1, 0, none⟩)] w fun e w' =>
   e = .returned (.tuple #[tokV ⟨K, 0, (c :: r).take k⟩, .int .i64 E]) /\ (∃ s' : ByteArray, s'.data.toList = (c :: r).drop k /\ Rd w' B s') /\ w.grownBy w' (some B) := by
 have hlt := hR.lt
 go_enter Tryz.func111, Tryz.ntmps111
 have hR0 : Rd (w.alloc (.cells #[.int .i64 0, .int .i64 0, .string ⟨#[]⟩] 171)) B s := hR.grown ((Below.refl _ _).alloc (Nat.le_refl _) _)
 obtain ⟨c0, f0, c1, c2⟩ := hR
 go_wp2_with fail
 refine (qCZ s 112 qAP B _ (by omega) enters61 (fun c w => qC8 c w) hR0).mono ?_
 rintro e w1 ⟨rfl, s1, hs1, hR1, hg⟩
 have hsz : s1.size = (c :: r).length := qAQ (hs1.trans h)
 have hle : s1.size <= s.size := by
  have h1 := qAQ hs1
  have h2 := qAA (p := pb qAP) s.data.toList
  have h3 := qAQ (rfl : s.data.toList = _)
  omega
 have HS1 : Hid (s1.data.toList = c :: r) := hs1.trans h
 have hkle : k <= s1.size := by have := signN_le (c :: r); omega
 simp only [List.length_cons] at hsz
 have h0 : 0 < s1.size := by omega
 have hne : (s1.toList == []) = false := qCC (by omega)
 have hsl : ∀ w, Calls Tryz.prog 117 #[.string s1] w fun e w' => e = .returned (.int .i64 k) /\ w' = w := by
  intro w
  refine (qEP s1 h0 w).mono ?_
  rintro e w' ⟨rfl, rfl⟩
  exact ⟨by rw [HS1.out, hk], rfl⟩
 have hat : s1[0] = c := by
  have := qA9 h0
  rw [List.drop_zero, hs1, h] at this
  injection this with h1 _
  exact h1.symm
 have hidx := index9 s1 0 0 rfl h0
 rw [hat] at hidx
 have HX : Hid (s1.extract 0 k = ⟨((c :: r).take k).toArray⟩ /\ (s1.extract k s1.size).data.toList = (c :: r).drop k /\ (s1.extract 0 k).size = k) := by
  refine ⟨by rw [qDa, HS1.out], by rw [qDb, HS1.out], ?_⟩
  rw [ByteArray.size_extract]; omega
 have hsg : ∀ w, Calls Tryz.prog 116 #[.string (s1.extract 0 k)] w fun e w' => e = .returned (.tuple #[.agg #[.int .i64 K, .int .i64 0, .string (s1.extract 0 k)], .int .i64 E]) /\ Below w.heap.size w w' := by
  intro w
  refine (sign_let _ w).mono ?_
  rintro e w' ⟨rfl, hb⟩
  rw [HX.out.2.2, <- hK, <- hE]
  exact ⟨rfl, hb⟩
 clear hk hK hE
 have hres : Hid (Res3 w1 w.heap.size (.int .i64 0) (.int .i64 0) (.string ⟨#[]⟩)) := qC1 hg (by omega)
 have hlt1 : w.heap.size < w1.heap.size := by have := hg.size; simp at this; omega
 have hG : Hid (w.grownBy w1 (some B)) := (World.grownBy_alloc w _ _).trans hg
 have HR1 : Hid (Rd w1 B s1) := hR1
 obtain ⟨c0', f0', c1', c2'⟩ := hR1
 clear hg hs1 hR0 c0 f0 c1 c2 hsz h0 hat
 go_wp2_with (first | (go_at_call 102; refine (qw _ _).mono ?_; rintro e w' ⟨rfl, hw⟩; rw [hw]; simp only [hl]) | (go_at_call 99; refine (qAG _ _).mono ?_; rintro e w' ⟨rfl, hw⟩; rw [hw]; simp only [hd]))
 go_region_with (first | (go_at_call 117; refine (hsl _).mono ?_; rintro e w' ⟨rfl, rfl⟩) | (go_at_call 109; refine (qLG s1 k B w1.drew hkle c0' f0').mono ?_; rintro e w' ⟨rfl, rfl⟩) | (go_at_call 116; refine (hsg _).mono ?_; rintro e w2 ⟨rfl, hb⟩; have hG2 : Hid (w.grownBy w2 (some B)) := qGT hG.out hb; have HR2 : Hid (Rd w2 B (s1.extract k s1.size)) := rd_after HR1.out hb; obtain ⟨⟨d0, d1, d2⟩, e0, e1, e2⟩ := qJj hres.out hb (by omega) hlt1; clear hb))
 all_goals
  go_wp2
  refine bodyPost_ret (v := .tuple #[tokV ⟨K, 0, (c :: r).take k⟩, .int .i64 E]) (by simp [results, Tryz.results111, go_sem, d0, d1, d2, tokV, HX.out.1]) rfl ⟨rfl, ⟨_, HX.out.2.1, HR2.out.set3 (by omega) _ _ _⟩, qBm hG2.out _ _ _⟩
theorem qDU (c : UInt8) (r : List UInt8) : qCB (c :: r) = if pb qy c = true then .tok ⟨1, 0, (c :: r).takeWhile (pb qCP)⟩ ((c :: r).dropWhile (pb qCP))
  else if pb qAK c = true then
   match numL ((c :: r).takeWhile (pb numB)) with
   | none => .bad
   | some n => .tok ⟨2, n, []⟩ ((c :: r).dropWhile (pb numB))
  else if qBh (c :: r) = 0 then .bad
  else .tok ⟨3, 0, (c :: r).take (qBh (c :: r))⟩ ((c :: r).drop (qBh (c :: r))) := rfl
theorem pb_no {p : Int -> Bool} {c : UInt8} (h : p c.toNat = false) : ¬ pb p c = true := by
 unfold pb
 rw [h]
 simp
theorem pb_yes {p : Int -> Bool} {c : UInt8} (h : p c.toNat = true) : pb p c = true := h
theorem qBN (s : ByteArray) (B : Nat) (w : World) (hs : s.size <= 281474976710656) (hG0 : Glob w) (hB : max (max 5 9) (max 10 0) < B) (hR : Rd w B s) :
  Calls Tryz.prog 111 #[.pointer (some ⟨B + 2, 0, none⟩), .pointer (some ⟨B, 0, none⟩), .pointer (some ⟨B + 1, 0, none⟩)] w fun e w' =>
   e = .returned (nxtV (qCB (s.data.toList.dropWhile (pb qAP)))) /\ (∀ t r, qCB (s.data.toList.dropWhile (pb qAP)) = .tok t r -> ∃ s' : ByteArray, s'.data.toList = r /\ Rd w' B s') /\ w.grownBy w' (some B) := by
 cases h : s.data.toList.dropWhile (pb qAP) with
 | nil =>
   refine (next_fin s B w (by omega) hR h).mono ?_
   rintro e w' ⟨rfl, hg⟩
   exact ⟨rfl, fun t r h => (by simp [qCB] at h), hg⟩
 | cons c r =>
   cases hl : qy c.toNat
   ·cases hd : qAK c.toNat
    ·refine (qDr s B w hs hR c r (qBh (c :: r)) _ _ rfl rfl h rfl hl hd).mono ?_
     rintro e w' ⟨rfl, ⟨s', hs', hR'⟩, hg⟩
     have e1 : qCB (c :: r) = if qBh (c :: r) = 0 then .bad else .tok ⟨3, 0, (c :: r).take (qBh (c :: r))⟩ ((c :: r).drop (qBh (c :: r))) := by
      rw [qDU, if_neg (pb_no hl), if_neg (pb_no hd)]
     by_cases h0 : qBh (c :: r) = 0
     ·rw [if_pos h0] at e1
      rw [e1]
      refine ⟨?_, fun t r h => (by cases h), hg⟩
      rw [h0]
      rfl
     ·rw [if_neg h0] at e1
      rw [e1]
      refine ⟨?_, fun t r' h => ?_, hg⟩
      ·rw [if_neg h0, if_neg h0]
       rfl
      ·injection h with _ h2
       exact ⟨s', h2 ▸ hs', hR'⟩
    ·refine (qE0 s B w hs hG0 hB hR c r h hl hd).mono ?_
     rintro e w' ⟨rfl, ⟨s', hs', hR'⟩, hg⟩
     have e1 : qCB (c :: r) = match numL ((c :: r).takeWhile (pb numB)) with
       | none => .bad
       | some n => .tok ⟨2, n, []⟩ ((c :: r).dropWhile (pb numB)) := by
      rw [qDU, if_neg (pb_no hl), if_pos (pb_yes hd)]
     rw [e1, numV]
     cases hn : numL ((c :: r).takeWhile (pb numB)) with
     | none => exact ⟨rfl, fun t r h => (by cases h), hg⟩
     | some n =>
       refine ⟨rfl, fun t r' h => ?_, hg⟩
       injection h with _ h2
       exact ⟨s', h2 ▸ hs', hR'⟩
   ·refine (qLQ s B w (by omega) hR c r h hl).mono ?_
    rintro e w' ⟨rfl, ⟨s', hs', hR'⟩, hg⟩
    have e1 : qCB (c :: r) = .tok ⟨1, 0, (c :: r).takeWhile (pb qCP)⟩ ((c :: r).dropWhile (pb qCP)) := by
     rw [qDU, if_pos (pb_yes hl)]
    rw [e1]
    refine ⟨rfl, fun t r' h => ?_, hg⟩
    injection h with _ h2
    exact ⟨s', h2 ▸ hs', hR'⟩
theorem qIo {l r : List UInt8} {t : Tok} (h : qCB l = .tok t r) : (t.kind == 0) = false := by
 unfold qCB at h
 split at h
 ·cases h
 ·split at h
  ·injection h with h1 _; subst h1; rfl
  ·split at h
   ·split at h
    ·cases h
    ·injection h with h1 _; subst h1; rfl
   ·split at h
    ·cases h
    ·injection h with h1 _; subst h1; rfl
theorem cut_code (l : List UInt8) : (Lib.cut l [59]).1 = code l := by
 unfold Lib.cut code
 rw [Lib.index_one]
 induction l with
 | nil => rfl
 | cons b r ih =>
   unfold Lib.indexByte
   by_cases hb : b = 59
   ·subst hb; rfl
   ·have hb1 : (b == 59) = false := by simpa using hb
    have hb2 : (b != 59) = true := by simp [hb]
    have hge := Lib.indexByte_ge r 59
    rw [List.takeWhile_cons, if_pos hb2, <- ih]
    simp only [hb1, Bool.false_eq_true, if_false]
    by_cases hi : Lib.indexByte r 59 = -1
    ·simp [hi]
    ·have h1 : (Lib.indexByte r 59 == -1) = false := by simpa using hi
     have h2 : 0 <= Lib.indexByte r 59 := by omega
     simp only [h1, Bool.false_eq_true, if_false]
     rw [if_pos (by omega), if_pos h2]
     show List.take (Lib.indexByte r 59 + 1).toNat (b :: r) = b :: List.take (Lib.indexByte r 59).toNat r
     rw [show (Lib.indexByte r 59 + 1).toNat = (Lib.indexByte r 59).toNat + 1 by omega]
     rfl
theorem code_len (l : List UInt8) : (code l).length <= l.length := by
 unfold code
 exact (List.takeWhile_sublist _).length_le
theorem info84 : (Tryz.prog.info? 171).map (fun i => (i.zero, i.size, i.bytes)) = some (some (.agg #[.int .i64 0, .int .i64 0, .string ⟨#[]⟩]), 3, 32) := by kernel_rfl
def boxLen (w : World) (B : Nat) : Nat := match w.cell? ⟨B, 0, none⟩ with
 | some (.string s) => s.size
 | _ => 0
theorem Rd.boxLen {w : World} {B : Nat} {s : ByteArray} (h : Rd w B s) : boxLen w B = s.size := by
 unfold YtgjmbjahgcndnaaGreatDoor.Sc.boxLen
 rw [h.c0]
theorem qHG (s : ByteArray) (w : World) (h : 80 < s.size) :
  Calls Tryz.prog 67 #[.string s] w fun e w' => e = .returned (.tuple #[.slice none 0 0, .int .i64 4]) /\ w' = w := by
 have h' : (80 : Int) < s.size := by omega
 go_enter Tryz.func67, Tryz.ntmps67
 go_wp2
 go_ret2
 exact ⟨rfl, rfl⟩
theorem qIb (a : List Tok) (t : Tok) : tcells (a ++ [t]) = tcells a ++ t.cells := by simp [tcells]
def TokAns (base : Nat) (w' : World) (l : List UInt8) (e : Ending) : Prop :=
 ∃ v, e = .returned (.tuple #[v, .int .i64 (qAM l)]) /\ w'.ownsRow base 171 3 v (qj l).length (tcells (qj l))
theorem kept_new {w w' : World} {base B n : Nat} {v : Value} {xs : List Value} (h : w.ownsRow base 171 3 v n xs) (hg : w.grownBy w' (some B)) (hB : B < base) : w'.ownsRow base 171 3 v n xs := by
 refine h.kept hg ?_
 cases hv : v.ownBlock with
 | none => exact Or.inl rfl
 | some k =>
   have := (h.lt k hv).1
   refine Or.inr ?_
   intro e
   cases e
   omega
theorem qKu {l r : List UInt8} {X : Option (List Tok)} {done : List Tok} {t : Tok} (h : X = (toks l).map (done ++ ·)) (hn : qCB (l.dropWhile (pb qAP)) = .tok t r) : X = (toks r).map ((done ++ [t]) ++ ·) := by
 rw [h, toks_tok hn]
 cases toks r <;> simp
theorem qL8 {l : List UInt8} {done : List Tok} (h : l.length <= 80) (e : toks (code l) = some done) : qAM l = 0 /\ qj l = done := by
 have h' : ¬ 80 < l.length := by omega
 unfold qAM qj qDj
 rw [if_neg h', if_neg h', e]
 exact ⟨rfl, rfl⟩
theorem line_bad {l : List UInt8} (h : l.length <= 80) (e : toks (code l) = none) : qAM l = 2 /\ qj l = [] := by
 have h' : ¬ 80 < l.length := by omega
 unfold qAM qj qDj
 rw [if_neg h', if_neg h', e]
 exact ⟨rfl, rfl⟩
theorem qGN {l : List UInt8} (h : 80 < l.length) : qAM l = 4 /\ qj l = [] := by
 unfold qAM qj qDj
 rw [if_pos h, if_pos h]
 exact ⟨rfl, rfl⟩
theorem qA2 {w : World} {b b' n : Nat} {e : TypeId} {size : Nat} {v : Value} {xs : List Value} (h : w.ownsRow b e size v n xs) (hb : b' <= b) : w.ownsRow b' e size v n xs := by
 refine ⟨h.1, ?_⟩
 rcases h.2 with h | ⟨g, cap, cur, rfl, hg, rest⟩
 ·exact Or.inl h
 ·exact Or.inr ⟨g, cap, cur, rfl, by omega, rest⟩
theorem Rd.by {w w' : World} {B : Nat} {s : ByteArray} {row : Option Nat} (h : Rd w B s) (hg : w.grownBy w' row) (hr : ∀ k, row = some k -> B + 3 <= k) : Rd w' B s := by
 have hlt := h.lt
 have hk : ∀ k, k < B + 3 -> w'.heap[k]? = w.heap[k]? := fun k hk => hg.block k (by omega) (by intro e; have := hr k e.symm; omega)
 exact ⟨(World.cell?_of_block (w := w) (hk _ (by show B < _; omega))).trans h.c0, (World.frozen?_of_block (w := w) (hk _ (by show B < _; omega))).trans h.f0,
  (World.cell?_of_block (w := w) (hk _ (by show B + 1 < _; omega))).trans h.c1, (World.cell?_of_block (w := w) (hk _ (by show B + 2 < _; omega))).trans h.c2⟩
theorem qJY (s : ByteArray) (w : World) (hG : Glob w) (h : s.size <= 80) :
  Calls Tryz.prog 67 #[.string s] w fun e w' => TokAns w.heap.size w' s.data.toList e /\ Below w.heap.size w w' := by
 have h' : ¬ (80 : Int) < s.size := by omega
 have hlen : s.data.toList.length = s.size := Array.length_toList
 have hcl := code_len s.data.toList
 obtain ⟨cs, hcs⟩ : ∃ cs : ByteArray, cs = ⟨(code s.data.toList).toArray⟩ := ⟨_, rfl⟩
 have hcsl : cs.data.toList = code s.data.toList := by rw [hcs]
 have hcss := qAQ hcsl
 obtain ⟨c2, c3, hcut⟩ : ∃ (c2 : ByteArray) (c3 : Bool), ∀ w, Glob w -> Calls Tryz.prog 84 #[.string s, .string ⟨#[59]⟩] w fun e w' => e = .returned (.tuple #[.string cs, .string c2, .bool c3]) /\ ∃ n, w' = w.drewN n := by
  refine ⟨⟨(Lib.cut s.data.toList [59]).2.1.toArray⟩, (Lib.cut s.data.toList [59]).2.2, fun w hG => ?_⟩
  obtain ⟨m, hm⟩ := hG.m
  refine (Tryz.strings_Cut s ⟨#[59]⟩ m w (by omega) hm).mono ?_
  rintro e w' ⟨rfl, hw⟩
  refine ⟨?_, hw⟩
  show _ = Ending.returned (.tuple #[.string cs, .string ⟨(Lib.cut s.data.toList [59]).2.1.toArray⟩, .bool (Lib.cut s.data.toList [59]).2.2])
  rw [hcs, <- cut_code]
 have hsz := hG.sz
 clear hcs
 obtain ⟨i0, hi, hz0, hz1, hz2⟩ := info_parts info84
 go_enter Tryz.func67, Tryz.ntmps67
 go_wp2_with fail
 refine (hcut _ hG).mono ?_
 rintro e w0 ⟨rfl, n, rfl⟩
 have hG0 : Glob (w.drewN n) := hG.below (Go.Joins.below_draws w.heap.size w n) hsz
 go_wp2_with fail
 refine (qIO cs _).mono ?_
 rintro e w1 ⟨rfl, hR, hb, hsz1⟩
 have hB1 : Hid (Below w.heap.size w w1) := (Go.Joins.below_draws w.heap.size w n).trans hb
 simp only [World.heap_drewN] at hR hsz1
 clear hb hcut hG0
 unfold qKo
 have hGw : Hid (Glob w) := hG
 have HB0 : Hid (max (max 5 9) (max 10 0) < w.heap.size) := hsz
 clear hG hsz
 go_wp2
 go_loopw [8] (fun v wr => ∃ (x : ByteArray) (done : List Tok), wr.ownsRow (w.heap.size + 3) 171 3 v done.length (tcells done) /\ Rd wr w.heap.size x /\ Below w.heap.size w wr /\ Hid (done.length + x.size <= 80 /\ w.heap.size + 3 <= wr.heap.size /\ toks (code s.data.toList) = (toks x.data.toList).map (done ++ ·))) (fun _ wr => boxLen wr w.heap.size)
 case atStart =>
  refine ⟨cs, [], World.ownsRow_nil _ _ _ _, hR, hB1.out, by simp; omega, by omega, ?_⟩
  rw [hcsl]
  simp
 case round =>
  obtain ⟨x, done, hown, hRr, hBr, HH⟩ := hrel
  obtain ⟨h80, hszr, htk⟩ := HH.out
  clear HH
  have hGr : Glob wr := hGw.out.below hBr HB0.out
  have hbl := hRr.boxLen
  have HT : Hid (toks (code s.data.toList) = (toks x.data.toList).map (done ++ ·)) := htk
  have HBr : Hid (Below w.heap.size w wr) := hBr
  have HO : Hid (wr.ownsRow (w.heap.size + 3) 171 3 u8 done.length (tcells done)) := hown
  clear htk hBr hown
  go_wp2_with fail
  refine (qBN x w.heap.size wr (by omega) hGr HB0.out hRr).mono ?_
  rintro e w2 ⟨rfl, htok, hg⟩
  have hown2 : w2.ownsRow (w.heap.size + 3) 171 3 u8 done.length (tcells done) := kept_new HO.out hg (by omega)
  have hB2 : Hid (Below w.heap.size w w2) := HBr.out.grown hg (by omega) (by intro k hk; cases hk; exact Nat.le_refl _)
  have hsz2 : w.heap.size + 3 <= w2.heap.size := by have := hg.size; omega
  clear hg hRr HO HBr hGr
  cases hn : qCB (x.data.toList.dropWhile (pb qAP)) with
  | fin =>
    have HF : Hid (qAM s.data.toList = 0 /\ qj s.data.toList = done) := qL8 (by omega) (by rw [HT.out, toks_fin hn]; simp)
    have HW : Hid (w2.ownsRow (w.heap.size + 3) 171 3 u8 done.length (tcells done)) := hown2
    clear hn htok HT hown2
    simp only [nxtV, tokZ]
    go_wp2
    go_ret2
    refine ⟨⟨u8, by rw [HF.out.1]; rfl, ?_⟩, hB2.out.alloc (by omega) _⟩
    rw [HF.out.2]
    exact qA2 (HW.out.alloc _) (by omega)
  | bad =>
    have HF : Hid (qAM s.data.toList = 2 /\ qj s.data.toList = []) := line_bad (by omega) (by rw [HT.out, toks_bad hn]; simp)
    clear hn htok HT hown2
    simp only [nxtV, tokZ]
    go_wp2
    go_ret2
    refine ⟨⟨.slice none 0 0, by rw [HF.out.1]; rfl, ?_⟩, hB2.out.alloc (by omega) _⟩
    rw [HF.out.2]
    exact World.ownsRow_nil _ _ _ _
  | tok t r =>
    have hkd := qIo hn
    obtain ⟨x', hx', hR'⟩ := htok t r hn
    have hlen' : x'.size < x.size := by
     have h1 := qAQ hx'
     have h2 := qD4 hn
     have h3 := qAA (p := pb qAP) x.data.toList
     have h4 := qAQ (rfl : x.data.toList = _)
     omega
    have HT2 : Hid (toks (code s.data.toList) = (toks x'.data.toList).map ((done ++ [t]) ++ ·)) := by
     rw [hx']
     exact qKu HT.out hn
    have HR2 : Hid (Rd w2 w.heap.size x') := hR'
    clear hn htok HT hR' hx'
    obtain ⟨kd, nn, tx⟩ := t
    simp only [nxtV, tokV] at hkd ⊢
    go_wp2_with (first
     | (at_builtin; refine wpList_append_own _ rfl _ _ 127 rfl (w.heap.size + 3) 171 i0 _ 3 32 Tryz.underlying127 hi hz0 hz1 hz2 rfl (by decide) _ _ _ rfl ((hown2.alloc _).alloc _) ⟨w2.heap.size + 1, 0, none⟩ 1 1 [.int .i64 kd, .int .i64 nn, .string ⟨tx.toArray⟩] rfl rfl ?c1 ?c2 ?c3 ?c4 ?c5 ?_)
     | go_in)
    case c1 =>
     intro j u hj
     match j, hj with
     | 0, hj => simp at hj; subst hj; simp [go_sem, Addr.add]
     | 1, hj => simp at hj; subst hj; simp [go_sem, Addr.add]
     | 2, hj => simp at hj; subst hj; simp [go_sem, Addr.add]
    case c2 => intro u hu; simp at hu; rcases hu with rfl | rfl | rfl <;> rfl
    case c3 => unfold maxLen; omega
    case c4 => omega
    case c5 => simp; omega
    ·intro v' w3 hown3 hgrow _
     have hrow : ∀ k, u8.ownBlock = some k -> w.heap.size + 3 <= k := fun k hk => (hown2.lt k hk).1
     have hR3 : Hid (Rd w3 w.heap.size x') := ((HR2.out.grown ((Below.refl _ _).alloc (Nat.le_refl _) _)).grown ((Below.refl _ _).alloc (Nat.le_refl _) _)).by hgrow hrow
     have hB3 : Hid (Below w.heap.size w w3) := ((hB2.out.alloc (by omega) _).alloc (by simp; omega) _).grown hgrow (by simp; omega) (fun k hk => by have := hrow k hk; omega)
     have hsz3 : w.heap.size + 3 <= w3.heap.size := by have := hgrow.size; simp at this; omega
     have HO3 : Hid (w3.ownsRow (w.heap.size + 3) 171 3 v' (done.length + 1) (tcells done ++ [.int .i64 kd, .int .i64 nn, .string ⟨tx.toArray⟩])) := hown3
     clear hown3 hgrow hrow HR2 hB2 hown2
     go_wp2
     go_roundw
     case rel =>
      refine ⟨x', done ++ [⟨kd, nn, tx⟩], ?_, hR3.out, hB3.out, by simp; omega, hsz3, HT2.out⟩
      rw [qIb, List.length_append]
      exact HO3.out
     case measure =>
      rw [hbl, hR3.out.boxLen]
      exact hlen'
theorem qIw (s : ByteArray) (w : World) (hG : Glob w) :
  Calls Tryz.prog 67 #[.string s] w fun e w' => TokAns w.heap.size w' s.data.toList e /\ Below w.heap.size w w' := by
 by_cases h : s.size <= 80
 ·exact qJY s w hG h
 ·refine (qHG s w (by omega)).mono ?_
  rintro e w' ⟨rfl, rfl⟩
  have hl : 80 < s.data.toList.length := by have := qAQ (rfl : s.data.toList = _); omega
  refine ⟨⟨.slice none 0 0, by rw [(qGN hl).1], ?_⟩, Below.refl _ _⟩
  rw [(qGN hl).2]
  exact World.ownsRow_nil _ _ _ _
def qEQ (w : World) (v : Value) (ts : List Tok) : Prop :=
 ∃ ad cap, v = .slice ad ts.length cap /\ ts.length <= maxLen /\ (0 < ts.length -> ∃ b o, ad = some ⟨b, o, none⟩ /\ b < w.heap.size /\ ∀ i (h : i < ts.length),
  w.cell? ⟨b, o + i * 3, none⟩ = some (.int .i64 ts[i].kind) /\ w.cell? ⟨b, o + i * 3 + 1, none⟩ = some (.int .i64 ts[i].n) /\ w.cell? ⟨b, o + i * 3 + 2, none⟩ = some (.string ⟨ts[i].text.toArray⟩))
theorem qFj : ∀ (ts : List Tok) (i : Nat) (h : i < ts.length), (tcells ts)[i * 3]? = some (.int .i64 ts[i].kind) /\ (tcells ts)[i * 3 + 1]? = some (.int .i64 ts[i].n) /\ (tcells ts)[i * 3 + 2]? = some (.string ⟨ts[i].text.toArray⟩)
 | [], i, h => by simp at h
 | t :: r, 0, _ => ⟨rfl, rfl, rfl⟩
 | t :: r, i + 1, h => by
   have ih := qFj r i (by simpa using h)
   have e : tcells (t :: r) = [.int .i64 t.kind, .int .i64 t.n, .string ⟨t.text.toArray⟩] ++ tcells r := rfl
   rw [e]
   refine ⟨?_, ?_, ?_⟩
   ·rw [List.getElem?_append_right (by simp; omega)]; simpa [Nat.add_mul] using ih.1
   ·rw [List.getElem?_append_right (by simp; omega), show (i + 1) * 3 + 1 - [Value.int .i64 t.kind, .int .i64 t.n, .string ⟨t.text.toArray⟩].length = i * 3 + 1 by simp; omega]; exact ih.2.1
   ·rw [List.getElem?_append_right (by simp; omega), show (i + 1) * 3 + 2 - [Value.int .i64 t.kind, .int .i64 t.n, .string ⟨t.text.toArray⟩].length = i * 3 + 2 by simp; omega]; exact ih.2.2
theorem qDC {w : World} {base : Nat} {v : Value} {ts : List Tok} (h : w.ownsRow base 171 3 v ts.length (tcells ts)) : qEQ w v ts := by
 rcases h.2 with ⟨rfl, hn⟩ | ⟨g, cap, cur, rfl, _, hg, hle, hm, _⟩
 ·exact ⟨none, 0, by rw [hn], by rw [hn]; exact Nat.zero_le _, fun h0 => by omega⟩
 ·refine ⟨_, cap, rfl, Nat.le_trans hle hm, fun _ => ⟨g, 0, rfl, (Array.getElem?_eq_some_iff.1 hg).1, fun i hi => ?_⟩⟩
  have ha := qFj ts i hi
  have hadd : ∀ j, (⟨g, 0, none⟩ : Addr).add j = ⟨g, 0 + j, none⟩ := fun j => by unfold Addr.add; split <;> simp_all
  have x0 := h.cells rfl _ _ ha.1
  have x1 := h.cells rfl _ _ ha.2.1
  have x2 := h.cells rfl _ _ ha.2.2
  rw [hadd] at x0 x1 x2
  exact ⟨x0, x1, x2⟩
theorem qEQ.below {w w' : World} {B : Nat} {v : Value} {ts : List Tok} (h : qEQ w v ts) (hb : Below B w w') (hB : w.heap.size <= B) : qEQ w' v ts := by
 obtain ⟨ad, cap, rfl, hm, hc⟩ := h
 refine ⟨ad, cap, rfl, hm, fun h0 => ?_⟩
 obtain ⟨b, o, rfl, hlt, hcell⟩ := hc h0
 refine ⟨b, o, rfl, Nat.lt_of_lt_of_le hlt hb.size, fun i hi => ?_⟩
 have := hcell i hi
 rw [hb.cell (by show b < B; omega), hb.cell (by show b < B; omega), hb.cell (by show b < B; omega)]
 exact this
end Go.Proofs.YtgjmbjahgcndnaaGreatDoor.Sc
