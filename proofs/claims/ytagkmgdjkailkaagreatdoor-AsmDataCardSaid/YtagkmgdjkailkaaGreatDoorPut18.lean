/- The contract of the function that package scan's reader answers: a sign; and all cases in one. The contract of scan's Tokens. The contract of scan's Tokens: the loop. -/
import Derived.Test.YtagkmgdjkailkaaGreatDoorScanH
import Derived.Lib.IndexBytes
import Derived.Lib.SmallJoins
namespace Go.Proofs.YtagkmgdjkailkaaGreatDoor.Sc
open Go.RowKit

theorem hasPrefix_len {l p : List UInt8} (h : Lib.hasPrefix l p = true) : p.length ≤ l.length := by
  unfold Lib.hasPrefix at h
  exact (List.isPrefixOf_iff_prefix.1 h).length_le

theorem signN_le (l : List UInt8) : signN l ≤ l.length := by
  unfold signN
  split
  · rename_i h
    rcases h with h | h
    · exact hasPrefix_len h
    · exact hasPrefix_len h
  · split
    · simp
    · split <;> simp

theorem sign_let (s : ByteArray) (w : World) :
    Calls Tryz.prog 71 #[.string s] w fun e w' => e = .returned (.tuple #[.agg #[.int .i64 (if s.size = 0 then 0 else 3), .int .i64 0, .string s], .int .i64 (if s.size = 0 then 2 else 0)]) ∧ Below w.heap.size w w' := by
  by_cases h : s.size = 0
  · have : s = ⟨#[]⟩ := empty_of (List.eq_nil_of_length_eq_zero (by rw [Array.length_toList]; exact h))
    subst this
    refine (sign_none w).mono ?_
    rintro e w' ⟨rfl, hb⟩
    exact ⟨rfl, hb⟩
  · refine (sign_some s (by omega) w).mono ?_
    rintro e w' ⟨rfl, hb⟩
    exact ⟨by rw [if_neg h, if_neg h], hb⟩

def Res3 (w : World) (g : Nat) (a b c : Value) : Prop := (w.cell? ⟨g, 0, none⟩ = some a ∧ w.cell? ⟨g, 1, none⟩ = some b ∧ w.cell? ⟨g, 2, none⟩ = some c) ∧ w.frozen? ⟨g, 0, none⟩ = false ∧ w.frozen? ⟨g, 1, none⟩ = false ∧ w.frozen? ⟨g, 2, none⟩ = false

theorem res_after {w1 w2 : World} {B g : Nat} {v a b c : Value} (hR : Res3 w1 g a b c) (hb : Below (w1.setCell ⟨B, 0, none⟩ v).drew.heap.size (w1.setCell ⟨B, 0, none⟩ v).drew w2) (hgB : g ≠ B) (hg : g < w1.heap.size) : Res3 w2 g a b c := by
  have hk : w2.heap[g]? = w1.heap[g]? := (hb.block g (by simpa using hg)).trans (Below.heap_setCell w1 _ _ g hgB)
  obtain ⟨⟨x0, x1, x2⟩, y0, y1, y2⟩ := hR
  exact ⟨⟨(World.cell?_of_block (w := w1) hk).trans x0, (World.cell?_of_block (w := w1) hk).trans x1, (World.cell?_of_block (w := w1) hk).trans x2⟩,
    (World.frozen?_of_block (w := w1) hk).trans y0, (World.frozen?_of_block (w := w1) hk).trans y1, (World.frozen?_of_block (w := w1) hk).trans y2⟩

theorem rd_after {w1 w2 : World} {B : Nat} {s s' : ByteArray} (hR : Rd w1 B s) (hb : Below (w1.setCell ⟨B, 0, none⟩ (.string s')).drew.heap.size (w1.setCell ⟨B, 0, none⟩ (.string s')).drew w2) : Rd w2 B s' := by
  have h1 := hR.set (s' := s')
  have h2 : Rd (w1.setCell ⟨B, 0, none⟩ (.string s')).drew B s' := ⟨h1.c0, h1.f0, h1.c1, h1.c2⟩
  exact h2.grown hb

theorem grown_after {w w1 w2 : World} {B : Nat} {v : Value} (h : w.grownBy w1 (some B)) (hb : Below (w1.setCell ⟨B, 0, none⟩ v).drew.heap.size (w1.setCell ⟨B, 0, none⟩ v).drew w2) : w.grownBy w2 (some B) := by
  have hsz := h.size
  have hsz2 := hb.size
  simp at hsz2
  refine ⟨hb.os.trans h.os, hb.tape.trans h.tape, hb.output.trans h.output, by omega, fun k hk hne => ?_⟩
  rw [hb.block k (by simp; omega)]
  exact (Below.heap_setCell w1 _ _ k (by intro e; apply hne; simp [e])).trans (h.block k hk hne)

set_option maxHeartbeats 1000000 in
theorem next_sign (s : ByteArray) (B : Nat) (w : World) (hs : s.size ≤ 281474976710656) (hR : Rd w B s) (c : UInt8) (r : List UInt8) (k : Nat) (K E : Int) (hK : K = if k = 0 then 0 else 3) (hE : E = if k = 0 then 2 else 0) (h : s.data.toList.dropWhile (pb blankB) = c :: r) (hk : signN (c :: r) = k) (hl : letterB c.toNat = false) (hd : digitB c.toNat = false) :
    Calls Tryz.prog 64 #[.pointer (some ⟨B + 2, 0, none⟩), .pointer (some ⟨B, 0, none⟩), .pointer (some ⟨B + 1, 0, none⟩)] w fun e w' =>
      e = .returned (.tuple #[tokV ⟨K, 0, (c :: r).take k⟩, .int .i64 E]) ∧ (∃ s' : ByteArray, s'.data.toList = (c :: r).drop k ∧ Rd w' B s') ∧ w.grownBy w' (some B) := by
  have hlt := hR.lt
  go_enter Tryz.func64, Tryz.ntmps64
  have hR0 : Rd (w.alloc (.cells #[.int .i64 0, .int .i64 0, .string ⟨#[]⟩] 89)) B s := hR.grown ((Below.refl _ _).alloc (Nat.le_refl _) _)
  obtain ⟨c0, f0, c1, c2⟩ := hR
  go_wp2_with fail
  refine (take_let s 65 blankB B _ (by omega) enters61 (fun c w => blank_any c w) hR0).mono ?_
  rintro e w1 ⟨rfl, s1, hs1, hR1, hg⟩
  have hsz : s1.size = (c :: r).length := size_of (hs1.trans h)
  have hle : s1.size ≤ s.size := by
    have h1 := size_of hs1
    have h2 := dropWhile_len (p := pb blankB) s.data.toList
    have h3 := size_of (rfl : s.data.toList = _)
    omega
  have HS1 : Hid (s1.data.toList = c :: r) := hs1.trans h
  have hkle : k ≤ s1.size := by have := signN_le (c :: r); omega
  simp only [List.length_cons] at hsz
  have h0 : 0 < s1.size := by omega
  have hne : (s1.toList == []) = false := not_empty (by omega)
  have hsl : ∀ w, Calls Tryz.prog 72 #[.string s1] w fun e w' => e = .returned (.int .i64 k) ∧ w' = w := by
    intro w
    refine (signLength_any s1 h0 w).mono ?_
    rintro e w' ⟨rfl, rfl⟩
    exact ⟨by rw [HS1.out, hk], rfl⟩
  have hat : s1[0] = c := by
    have := drop_at h0
    rw [List.drop_zero, hs1, h] at this
    injection this with h1 _
    exact h1.symm
  have hidx := index9 s1 0 0 rfl h0
  rw [hat] at hidx
  have HX : Hid (s1.extract 0 k = ⟨((c :: r).take k).toArray⟩ ∧ (s1.extract k s1.size).data.toList = (c :: r).drop k ∧ (s1.extract 0 k).size = k) := by
    refine ⟨by rw [extract_take, HS1.out], by rw [extract_drop, HS1.out], ?_⟩
    rw [ByteArray.size_extract]; omega
  have hsg : ∀ w, Calls Tryz.prog 71 #[.string (s1.extract 0 k)] w fun e w' => e = .returned (.tuple #[.agg #[.int .i64 K, .int .i64 0, .string (s1.extract 0 k)], .int .i64 E]) ∧ Below w.heap.size w w' := by
    intro w
    refine (sign_let _ w).mono ?_
    rintro e w' ⟨rfl, hb⟩
    rw [HX.out.2.2, ← hK, ← hE]
    exact ⟨rfl, hb⟩
  clear hk hK hE
  have hres : Hid (Res3 w1 w.heap.size (.int .i64 0) (.int .i64 0) (.string ⟨#[]⟩)) := res_cells hg (by omega)
  have hlt1 : w.heap.size < w1.heap.size := by have := hg.size; simp at this; omega
  have hG : Hid (w.grownBy w1 (some B)) := (World.grownBy_alloc w _ _).trans hg
  have HR1 : Hid (Rd w1 B s1) := hR1
  obtain ⟨c0', f0', c1', c2'⟩ := hR1
  clear hg hs1 hR0 c0 f0 c1 c2 hsz h0 hat
  go_wp2_with (first | (go_at_call 66; refine (letter_any _ _).mono ?_; rintro e w' ⟨rfl, hw⟩; rw [hw]; simp only [hl]) | (go_at_call 68; refine (digit_any _ _).mono ?_; rintro e w' ⟨rfl, hw⟩; rw [hw]; simp only [hd]))
  go_region_with (first | (go_at_call 72; refine (hsl _).mono ?_; rintro e w' ⟨rfl, rfl⟩) | (go_at_call 61; refine (cut_any s1 k B w1.drew hkle c0' f0').mono ?_; rintro e w' ⟨rfl, rfl⟩) | (go_at_call 71; refine (hsg _).mono ?_; rintro e w2 ⟨rfl, hb⟩; have hG2 : Hid (w.grownBy w2 (some B)) := grown_after hG.out hb; have HR2 : Hid (Rd w2 B (s1.extract k s1.size)) := rd_after HR1.out hb; obtain ⟨⟨d0, d1, d2⟩, e0, e1, e2⟩ := res_after hres.out hb (by omega) hlt1; clear hb))
  all_goals
    go_wp2
    refine bodyPost_ret (v := .tuple #[tokV ⟨K, 0, (c :: r).take k⟩, .int .i64 E]) (by simp [results, Tryz.results64, go_sem, d0, d1, d2, tokV, HX.out.1]) rfl ⟨rfl, ⟨_, HX.out.2.1, HR2.out.set3 (by omega) _ _ _⟩, grown_set3 hG2.out _ _ _⟩
end Go.Proofs.YtagkmgdjkailkaaGreatDoor.Sc

namespace Go.Proofs.YtagkmgdjkailkaaGreatDoor.Sc
open Go.RowKit

theorem nextT_cons (c : UInt8) (r : List UInt8) : nextT (c :: r) = if pb letterB c = true then .tok ⟨1, 0, (c :: r).takeWhile (pb wordB)⟩ ((c :: r).dropWhile (pb wordB))
    else if pb digitB c = true then
      match numL ((c :: r).takeWhile (pb numB)) with
      | none => .bad
      | some n => .tok ⟨2, n, []⟩ ((c :: r).dropWhile (pb numB))
    else if signN (c :: r) = 0 then .bad
    else .tok ⟨3, 0, (c :: r).take (signN (c :: r))⟩ ((c :: r).drop (signN (c :: r))) := rfl

theorem pb_no {p : Int → Bool} {c : UInt8} (h : p c.toNat = false) : ¬ pb p c = true := by
  unfold pb
  rw [h]
  simp
theorem pb_yes {p : Int → Bool} {c : UInt8} (h : p c.toNat = true) : pb p c = true := h

theorem next_any (s : ByteArray) (B : Nat) (w : World) (hs : s.size ≤ 281474976710656) (hG0 : Glob w) (hB : 10 ≤ B) (hR : Rd w B s) :
    Calls Tryz.prog 64 #[.pointer (some ⟨B + 2, 0, none⟩), .pointer (some ⟨B, 0, none⟩), .pointer (some ⟨B + 1, 0, none⟩)] w fun e w' =>
      e = .returned (nxtV (nextT (s.data.toList.dropWhile (pb blankB)))) ∧ (∀ t r, nextT (s.data.toList.dropWhile (pb blankB)) = .tok t r → ∃ s' : ByteArray, s'.data.toList = r ∧ Rd w' B s') ∧ w.grownBy w' (some B) := by
  cases h : s.data.toList.dropWhile (pb blankB) with
  | nil =>
    refine (next_fin s B w (by omega) hR h).mono ?_
    rintro e w' ⟨rfl, hg⟩
    exact ⟨rfl, fun t r h => (by simp [nextT] at h), hg⟩
  | cons c r =>
    cases hl : letterB c.toNat
    · cases hd : digitB c.toNat
      · refine (next_sign s B w hs hR c r (signN (c :: r)) _ _ rfl rfl h rfl hl hd).mono ?_
        rintro e w' ⟨rfl, ⟨s', hs', hR'⟩, hg⟩
        have e1 : nextT (c :: r) = if signN (c :: r) = 0 then .bad else .tok ⟨3, 0, (c :: r).take (signN (c :: r))⟩ ((c :: r).drop (signN (c :: r))) := by
          rw [nextT_cons, if_neg (pb_no hl), if_neg (pb_no hd)]
        by_cases h0 : signN (c :: r) = 0
        · rw [if_pos h0] at e1
          rw [e1]
          refine ⟨?_, fun t r h => (by cases h), hg⟩
          rw [h0]
          rfl
        · rw [if_neg h0] at e1
          rw [e1]
          refine ⟨?_, fun t r' h => ?_, hg⟩
          · rw [if_neg h0, if_neg h0]
            rfl
          · injection h with _ h2
            exact ⟨s', h2 ▸ hs', hR'⟩
      · refine (next_num s B w hs hG0 hB hR c r h hl hd).mono ?_
        rintro e w' ⟨rfl, ⟨s', hs', hR'⟩, hg⟩
        have e1 : nextT (c :: r) = match numL ((c :: r).takeWhile (pb numB)) with
            | none => .bad
            | some n => .tok ⟨2, n, []⟩ ((c :: r).dropWhile (pb numB)) := by
          rw [nextT_cons, if_neg (pb_no hl), if_pos (pb_yes hd)]
        rw [e1, numV]
        cases hn : numL ((c :: r).takeWhile (pb numB)) with
        | none => exact ⟨rfl, fun t r h => (by cases h), hg⟩
        | some n =>
          refine ⟨rfl, fun t r' h => ?_, hg⟩
          injection h with _ h2
          exact ⟨s', h2 ▸ hs', hR'⟩
    · refine (next_word s B w (by omega) hR c r h hl).mono ?_
      rintro e w' ⟨rfl, ⟨s', hs', hR'⟩, hg⟩
      have e1 : nextT (c :: r) = .tok ⟨1, 0, (c :: r).takeWhile (pb wordB)⟩ ((c :: r).dropWhile (pb wordB)) := by
        rw [nextT_cons, if_pos (pb_yes hl)]
      rw [e1]
      refine ⟨rfl, fun t r' h => ?_, hg⟩
      injection h with _ h2
      exact ⟨s', h2 ▸ hs', hR'⟩

theorem nextT_kind {l r : List UInt8} {t : Tok} (h : nextT l = .tok t r) : (t.kind == 0) = false := by
  unfold nextT at h
  split at h
  · cases h
  · split at h
    · injection h with h1 _; subst h1; rfl
    · split at h
      · split at h
        · cases h
        · injection h with h1 _; subst h1; rfl
      · split at h
        · cases h
        · injection h with h1 _; subst h1; rfl

theorem cut_code (l : List UInt8) : (Lib.cut l [59]).1 = code l := by
  unfold Lib.cut code
  rw [Lib.index_one]
  induction l with
  | nil => rfl
  | cons b r ih =>
    unfold Lib.indexByte
    by_cases hb : b = 59
    · subst hb; rfl
    · have hb1 : (b == 59) = false := by simpa using hb
      have hb2 : (b != 59) = true := by simp [hb]
      have hge := Lib.indexByte_ge r 59
      rw [List.takeWhile_cons, if_pos hb2, ← ih]
      simp only [hb1, Bool.false_eq_true, if_false]
      by_cases hi : Lib.indexByte r 59 = -1
      · simp [hi]
      · have h1 : (Lib.indexByte r 59 == -1) = false := by simpa using hi
        have h2 : 0 ≤ Lib.indexByte r 59 := by omega
        simp only [h1, Bool.false_eq_true, if_false]
        rw [if_pos (by omega), if_pos h2]
        show List.take (Lib.indexByte r 59 + 1).toNat (b :: r) = b :: List.take (Lib.indexByte r 59).toNat r
        rw [show (Lib.indexByte r 59 + 1).toNat = (Lib.indexByte r 59).toNat + 1 by omega]
        rfl

theorem code_len (l : List UInt8) : (code l).length ≤ l.length := by
  unfold code
  exact (List.takeWhile_sublist _).length_le

theorem info84 : (Tryz.prog.info? 89).map (fun i => (i.zero, i.size, i.bytes)) = some (some (.agg #[.int .i64 0, .int .i64 0, .string ⟨#[]⟩]), 3, 32) := by kernel_rfl

def boxLen (w : World) (B : Nat) : Nat := match w.cell? ⟨B, 0, none⟩ with
  | some (.string s) => s.size
  | _ => 0

theorem Rd.boxLen {w : World} {B : Nat} {s : ByteArray} (h : Rd w B s) : boxLen w B = s.size := by
  unfold YtagkmgdjkailkaaGreatDoor.Sc.boxLen
  rw [h.c0]

theorem tokens_much (s : ByteArray) (w : World) (h : 80 < s.size) :
    Calls Tryz.prog 22 #[.string s] w fun e w' => e = .returned (.tuple #[.slice none 0 0, .int .i64 4]) ∧ w' = w := by
  have h' : (80 : Int) < s.size := by omega
  go_enter Tryz.func22, Tryz.ntmps22
  go_wp2
  go_ret2
  exact ⟨rfl, rfl⟩

end Go.Proofs.YtagkmgdjkailkaaGreatDoor.Sc

namespace Go.Proofs.YtagkmgdjkailkaaGreatDoor.Sc
open Go.RowKit

theorem tcells_app (a : List Tok) (t : Tok) : tcells (a ++ [t]) = tcells a ++ t.cells := by simp [tcells]

/-- What Tokens answers. -/
def TokAns (base : Nat) (w' : World) (l : List UInt8) (e : Ending) : Prop :=
  ∃ v, e = .returned (.tuple #[v, .int .i64 (lineErr l)]) ∧ w'.ownsRow base 89 3 v (lineList l).length (tcells (lineList l))

theorem kept_new {w w' : World} {base B n : Nat} {v : Value} {xs : List Value} (h : w.ownsRow base 89 3 v n xs) (hg : w.grownBy w' (some B)) (hB : B < base) : w'.ownsRow base 89 3 v n xs := by
  refine h.kept hg ?_
  cases hv : v.ownBlock with
  | none => exact Or.inl rfl
  | some k =>
    have := (h.lt k hv).1
    refine Or.inr ?_
    intro e
    cases e
    omega

theorem toks_step {l r : List UInt8} {X : Option (List Tok)} {done : List Tok} {t : Tok} (h : X = (toks l).map (done ++ ·)) (hn : nextT (l.dropWhile (pb blankB)) = .tok t r) : X = (toks r).map ((done ++ [t]) ++ ·) := by
  rw [h, toks_tok hn]
  cases toks r <;> simp

theorem line_done {l : List UInt8} {done : List Tok} (h : l.length ≤ 80) (e : toks (code l) = some done) : lineErr l = 0 ∧ lineList l = done := by
  have h' : ¬ 80 < l.length := by omega
  unfold lineErr lineList lineToks
  rw [if_neg h', if_neg h', e]
  exact ⟨rfl, rfl⟩
theorem line_bad {l : List UInt8} (h : l.length ≤ 80) (e : toks (code l) = none) : lineErr l = 2 ∧ lineList l = [] := by
  have h' : ¬ 80 < l.length := by omega
  unfold lineErr lineList lineToks
  rw [if_neg h', if_neg h', e]
  exact ⟨rfl, rfl⟩
theorem line_much {l : List UInt8} (h : 80 < l.length) : lineErr l = 4 ∧ lineList l = [] := by
  unfold lineErr lineList lineToks
  rw [if_pos h, if_pos h]
  exact ⟨rfl, rfl⟩

theorem ownsRow_base {w : World} {b b' n : Nat} {e : TypeId} {size : Nat} {v : Value} {xs : List Value} (h : w.ownsRow b e size v n xs) (hb : b' ≤ b) : w.ownsRow b' e size v n xs := by
  refine ⟨h.1, ?_⟩
  rcases h.2 with h | ⟨g, cap, cur, rfl, hg, rest⟩
  · exact Or.inl h
  · exact Or.inr ⟨g, cap, cur, rfl, by omega, rest⟩

theorem Rd.by {w w' : World} {B : Nat} {s : ByteArray} {row : Option Nat} (h : Rd w B s) (hg : w.grownBy w' row) (hr : ∀ k, row = some k → B + 3 ≤ k) : Rd w' B s := by
  have hlt := h.lt
  have hk : ∀ k, k < B + 3 → w'.heap[k]? = w.heap[k]? := fun k hk => hg.block k (by omega) (by intro e; have := hr k e.symm; omega)
  exact ⟨(World.cell?_of_block (w := w) (hk _ (by show B < _; omega))).trans h.c0, (World.frozen?_of_block (w := w) (hk _ (by show B < _; omega))).trans h.f0,
    (World.cell?_of_block (w := w) (hk _ (by show B + 1 < _; omega))).trans h.c1, (World.cell?_of_block (w := w) (hk _ (by show B + 2 < _; omega))).trans h.c2⟩

theorem tokens_few (s : ByteArray) (w : World) (hG : Glob w) (h : s.size ≤ 80) :
    Calls Tryz.prog 22 #[.string s] w fun e w' => TokAns w.heap.size w' s.data.toList e ∧ Below w.heap.size w w' := by
  have h' : ¬ (80 : Int) < s.size := by omega
  have hlen : s.data.toList.length = s.size := Array.length_toList
  have hcl := code_len s.data.toList
  obtain ⟨cs, hcs⟩ : ∃ cs : ByteArray, cs = ⟨(code s.data.toList).toArray⟩ := ⟨_, rfl⟩
  have hcsl : cs.data.toList = code s.data.toList := by rw [hcs]
  have hcss := size_of hcsl
  obtain ⟨c2, c3, hcut⟩ : ∃ (c2 : ByteArray) (c3 : Bool), ∀ w, Glob w → Calls Tryz.prog 37 #[.string s, .string ⟨#[59]⟩] w fun e w' => e = .returned (.tuple #[.string cs, .string c2, .bool c3]) ∧ ∃ n, w' = w.drewN n := by
    refine ⟨⟨(Lib.cut s.data.toList [59]).2.1.toArray⟩, (Lib.cut s.data.toList [59]).2.2, fun w hG => ?_⟩
    obtain ⟨m, hm⟩ := hG.m
    refine (Tryz.strings_Cut s ⟨#[59]⟩ m w (by omega) hm).mono ?_
    rintro e w' ⟨rfl, hw⟩
    refine ⟨?_, hw⟩
    show _ = Ending.returned (.tuple #[.string cs, .string ⟨(Lib.cut s.data.toList [59]).2.1.toArray⟩, .bool (Lib.cut s.data.toList [59]).2.2])
    rw [hcs, ← cut_code]
  have hsz := hG.sz
  clear hcs
  obtain ⟨i0, hi, hz0, hz1, hz2⟩ := info_parts info84
  go_enter Tryz.func22, Tryz.ntmps22
  go_wp2_with fail
  refine (hcut _ hG).mono ?_
  rintro e w0 ⟨rfl, n, rfl⟩
  have hG0 : Glob (w.drewN n) := hG.below (Go.Joins.below_draws w.heap.size w n) hsz
  go_wp2_with fail
  refine (reader_any cs _).mono ?_
  rintro e w1 ⟨rfl, hR, hb, hsz1⟩
  have hB1 : Hid (Below w.heap.size w w1) := (Go.Joins.below_draws w.heap.size w n).trans hb
  simp only [World.heap_drewN] at hR hsz1
  clear hb hcut hG0
  unfold readerV
  have hGw : Hid (Glob w) := hG
  have HB0 : Hid (10 ≤ w.heap.size) := hsz
  clear hG hsz
  go_wp2
  go_loopw [8] (fun v wr => ∃ (x : ByteArray) (done : List Tok), wr.ownsRow (w.heap.size + 3) 89 3 v done.length (tcells done) ∧ Rd wr w.heap.size x ∧ Below w.heap.size w wr ∧ Hid (done.length + x.size ≤ 80 ∧ w.heap.size + 3 ≤ wr.heap.size ∧ toks (code s.data.toList) = (toks x.data.toList).map (done ++ ·))) (fun _ wr => boxLen wr w.heap.size)
  case atStart =>
    refine ⟨cs, [], World.ownsRow_nil _ _ _ _, hR, hB1.out, by simp; omega, by omega, ?_⟩
    rw [hcsl]
    simp
  case round =>
    obtain ⟨x, done, hown, hRr, hBr, HH⟩ := hrel
    obtain ⟨h80, hszr, htk⟩ := HH.out
    clear HH
    have hGr : Glob wr := hGw.out.below hBr HB0.out
    have hbl := hRr.boxLen
    have HT : Hid (toks (code s.data.toList) = (toks x.data.toList).map (done ++ ·)) := htk
    have HBr : Hid (Below w.heap.size w wr) := hBr
    have HO : Hid (wr.ownsRow (w.heap.size + 3) 89 3 u8 done.length (tcells done)) := hown
    clear htk hBr hown
    go_wp2_with fail
    refine (next_any x w.heap.size wr (by omega) hGr HB0.out hRr).mono ?_
    rintro e w2 ⟨rfl, htok, hg⟩
    have hown2 : w2.ownsRow (w.heap.size + 3) 89 3 u8 done.length (tcells done) := kept_new HO.out hg (by omega)
    have hB2 : Hid (Below w.heap.size w w2) := HBr.out.grown hg (by omega) (by intro k hk; cases hk; exact Nat.le_refl _)
    have hsz2 : w.heap.size + 3 ≤ w2.heap.size := by have := hg.size; omega
    clear hg hRr HO HBr hGr
    cases hn : nextT (x.data.toList.dropWhile (pb blankB)) with
    | fin =>
      have HF : Hid (lineErr s.data.toList = 0 ∧ lineList s.data.toList = done) := line_done (by omega) (by rw [HT.out, toks_fin hn]; simp)
      have HW : Hid (w2.ownsRow (w.heap.size + 3) 89 3 u8 done.length (tcells done)) := hown2
      clear hn htok HT hown2
      simp only [nxtV, tokZ]
      go_wp2
      go_ret2
      refine ⟨⟨u8, by rw [HF.out.1]; rfl, ?_⟩, hB2.out.alloc (by omega) _⟩
      rw [HF.out.2]
      exact ownsRow_base (HW.out.alloc _) (by omega)
    | bad =>
      have HF : Hid (lineErr s.data.toList = 2 ∧ lineList s.data.toList = []) := line_bad (by omega) (by rw [HT.out, toks_bad hn]; simp)
      clear hn htok HT hown2
      simp only [nxtV, tokZ]
      go_wp2
      go_ret2
      refine ⟨⟨.slice none 0 0, by rw [HF.out.1]; rfl, ?_⟩, hB2.out.alloc (by omega) _⟩
      rw [HF.out.2]
      exact World.ownsRow_nil _ _ _ _
    | tok t r =>
      have hkd := nextT_kind hn
      obtain ⟨x', hx', hR'⟩ := htok t r hn
      have hlen' : x'.size < x.size := by
        have h1 := size_of hx'
        have h2 := nextT_len hn
        have h3 := dropWhile_len (p := pb blankB) x.data.toList
        have h4 := size_of (rfl : x.data.toList = _)
        omega
      have HT2 : Hid (toks (code s.data.toList) = (toks x'.data.toList).map ((done ++ [t]) ++ ·)) := by
        rw [hx']
        exact toks_step HT.out hn
      have HR2 : Hid (Rd w2 w.heap.size x') := hR'
      clear hn htok HT hR' hx'
      obtain ⟨kd, nn, tx⟩ := t
      simp only [nxtV, tokV] at hkd ⊢
      go_wp2_with (first
        | (at_builtin; refine wpList_append_own _ rfl _ _ 61 rfl (w.heap.size + 3) 89 i0 _ 3 32 Tryz.underlying61 hi hz0 hz1 hz2 rfl (by decide) _ _ _ rfl ((hown2.alloc _).alloc _) ⟨w2.heap.size + 1, 0, none⟩ 1 1 [.int .i64 kd, .int .i64 nn, .string ⟨tx.toArray⟩] rfl rfl ?c1 ?c2 ?c3 ?c4 ?c5 ?_)
        | go_in)
      case c1 =>
        intro j u hj
        match j, hj with
        | 0, hj => simp at hj; subst hj; simp [go_sem, Addr.add]
        | 1, hj => simp at hj; subst hj; simp [go_sem, Addr.add]
        | 2, hj => simp at hj; subst hj; simp [go_sem, Addr.add]
      case c2 => intro u hu; simp at hu; rcases hu with rfl | rfl | rfl <;> rfl
      case c3 => unfold maxLen; omega
      case c4 => omega
      case c5 => simp; omega
      · intro v' w3 hown3 hgrow _
        have hrow : ∀ k, u8.ownBlock = some k → w.heap.size + 3 ≤ k := fun k hk => (hown2.lt k hk).1
        have hR3 : Hid (Rd w3 w.heap.size x') := ((HR2.out.grown ((Below.refl _ _).alloc (Nat.le_refl _) _)).grown ((Below.refl _ _).alloc (Nat.le_refl _) _)).by hgrow hrow
        have hB3 : Hid (Below w.heap.size w w3) := ((hB2.out.alloc (by omega) _).alloc (by simp; omega) _).grown hgrow (by simp; omega) (fun k hk => by have := hrow k hk; omega)
        have hsz3 : w.heap.size + 3 ≤ w3.heap.size := by have := hgrow.size; simp at this; omega
        have HO3 : Hid (w3.ownsRow (w.heap.size + 3) 89 3 v' (done.length + 1) (tcells done ++ [.int .i64 kd, .int .i64 nn, .string ⟨tx.toArray⟩])) := hown3
        clear hown3 hgrow hrow HR2 hB2 hown2
        go_wp2
        go_roundw
        case rel =>
          refine ⟨x', done ++ [⟨kd, nn, tx⟩], ?_, hR3.out, hB3.out, by simp; omega, hsz3, HT2.out⟩
          rw [tcells_app, List.length_append]
          exact HO3.out
        case measure =>
          rw [hbl, hR3.out.boxLen]
          exact hlen'

theorem tokens_any (s : ByteArray) (w : World) (hG : Glob w) :
    Calls Tryz.prog 22 #[.string s] w fun e w' => TokAns w.heap.size w' s.data.toList e ∧ Below w.heap.size w w' := by
  by_cases h : s.size ≤ 80
  · exact tokens_few s w hG h
  · refine (tokens_much s w (by omega)).mono ?_
    rintro e w' ⟨rfl, rfl⟩
    have hl : 80 < s.data.toList.length := by have := size_of (rfl : s.data.toList = _); omega
    refine ⟨⟨.slice none 0 0, by rw [(line_much hl).1], ?_⟩, Below.refl _ _⟩
    rw [(line_much hl).2]
    exact World.ownsRow_nil _ _ _ _

end Go.Proofs.YtagkmgdjkailkaaGreatDoor.Sc
