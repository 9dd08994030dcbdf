/- The contract of the document's own Tokens: what the walk wants. -/
import Derived.Test.YtajeijhmlkbjgaaDoorDocC
import Derived.Test.YtajeijhmlkbjgaaDoorDocD
import Derived.Test.YtajeijhmlkbjgaaDoorScanK
namespace Go.Proofs.YtajeijhmlkbjgaaDoor
open Go.RowKit

theorem letter_blank (c : UInt8) : (letterB c.toNat && (blankB c.toNat || digitB c.toNat)) = false := by
  have := all8 (fun c => (letterB c.toNat && (blankB c.toNat || digitB c.toNat)) == false) (by decide +kernel) c
  exact beq_iff_eq.1 this
theorem digit_blank (c : UInt8) : (digitB c.toNat && blankB c.toNat) = false := by
  have := all8 (fun c => (digitB c.toNat && blankB c.toNat) == false) (by decide +kernel) c
  exact beq_iff_eq.1 this

theorem kind97 (c : Int) : (kindR c == 97) = letterB c := by
  unfold kindR
  cases letterB c
  · cases digitB c
    · cases blankB c <;> rfl
    · rfl
  · rfl
theorem kind48 {c : Int} (h : letterB c = false) : (kindR c == 48) = digitB c := by
  unfold kindR
  rw [h]
  cases digitB c
  · cases blankB c <;> rfl
  · rfl

theorem kind_word {c : Int} (h : letterB c = true) : kindR c = 97 := by simp [kindR, h]
theorem kind_num {c : Int} (h : letterB c = false) (h1 : digitB c = true) : kindR c = 48 := by simp [kindR, h, h1]
theorem kind_blank {c : Int} (h : letterB c = false) (h1 : digitB c = false) (h2 : blankB c = true) : kindR c = 32 := by simp [kindR, h, h1, h2]
theorem kind_other {c : Int} (h : letterB c = false) (h1 : digitB c = false) (h2 : blankB c = false) : kindR c = 0 := by simp [kindR, h, h1, h2]

/-- How far the inner loops have come: from k on, at j. -/
def SpanAt (p : Int → Bool) (l : List UInt8) (k j : Nat) : Prop := spanL p (l.drop k) = (j - k) + spanL p (l.drop j)

theorem spanAt_start (p : Int → Bool) (l : List UInt8) (k : Nat) : SpanAt p l k k := by unfold SpanAt; omega
theorem spanAt_yes {p : Int → Bool} {l r : List UInt8} {k j : Nat} {c : UInt8} (h : SpanAt p l k j) (hkj : k ≤ j) (hd : l.drop j = c :: r) (hp : p c.toNat = true) : SpanAt p l k (j + 1) := by
  unfold SpanAt at h ⊢
  have hr : l.drop (j + 1) = r := by rw [← List.drop_drop, hd]; rfl
  rw [h, hd, hr]
  have hp' : pb p c = true := hp
  simp only [spanL, List.takeWhile_cons, hp', if_true, List.length_cons]
  omega
theorem spanAt_no {p : Int → Bool} {l r : List UInt8} {k j : Nat} {c : UInt8} (h : SpanAt p l k j) (hd : l.drop j = c :: r) (hp : p c.toNat = false) : spanL p (l.drop k) = j - k := by
  unfold SpanAt at h
  rw [h, hd]
  have hp' : pb p c = false := hp
  simp [spanL, hp']
theorem spanAt_end {p : Int → Bool} {l : List UInt8} {k j : Nat} (h : SpanAt p l k j) (hd : l.length ≤ j) : spanL p (l.drop k) = j - k := by
  unfold SpanAt at h
  rw [h, List.drop_eq_nil_of_le hd]
  simp [spanL]

theorem span_take {p : Int → Bool} {l : List UInt8} {k j : Nat} (h : spanL p (l.drop k) = j - k) : (l.drop k).takeWhile (pb p) = (l.drop k).take (j - k) := by rw [← take_span, h]
theorem span_drop {p : Int → Bool} {l : List UInt8} {k j : Nat} (h : spanL p (l.drop k) = j - k) (hkj : k ≤ j) : (l.drop k).dropWhile (pb p) = l.drop j := by
  rw [← drop_span, h, List.drop_drop]
  congr 1
  omega

theorem extract_list (s : ByteArray) (k j : Nat) : (s.extract k j).data.toList = (s.data.toList.drop k).take (j - k) := by
  simp [ByteArray.data_extract]
theorem extract_bytes (s : ByteArray) (k j : Nat) : s.extract k j = ⟨((s.data.toList.drop k).take (j - k)).toArray⟩ := by
  apply ByteArray.ext
  apply Array.toList_inj.1
  rw [extract_list]

theorem tk_step {l rest : List UInt8} {X : Option (List Tok)} {done : List Tok} {t : Tok} {k : Nat} (h : X = (toks (code (l.drop k))).map (done ++ ·)) (hn : toks (code (l.drop k)) = (toks (code rest)).map (t :: ·)) : X = (toks (code rest)).map ((done ++ [t]) ++ ·) := by
  rw [h, hn]
  cases toks (code rest) <;> simp

/-- What holds at the loop's head. -/
structure TkAt (l : List UInt8) (k : Nat) (done : List Tok) : Prop where
  few : done.length ≤ k
  left : toks (code l) = (toks (code (l.drop k))).map (done ++ ·)

theorem tkAt_start (l : List UInt8) : TkAt l 0 [] := ⟨Nat.le_refl _, by simp⟩

theorem TkAt.word {l : List UInt8} {k j : Nat} {done : List Tok} {c : UInt8} {r : List UInt8} (h : TkAt l k done) (hd : l.drop k = c :: r) (hl : letterB c.toNat = true) (hkj : k ≤ j) (hs : spanL wordB (l.drop k) = j - k) :
    k < j ∧ TkAt l j (done ++ [⟨1, 0, (l.drop k).take (j - k)⟩]) := by
  have hb : blankB c.toNat = false := by have := letter_blank c; rw [hl] at this; simp at this; exact this.1
  have hp : pb wordB c = true := by simp [pb, wordB, hl]
  have hlt : k < j := by
    rw [hd] at hs
    simp only [spanL, List.takeWhile_cons, hp, if_true, List.length_cons] at hs
    omega
  refine ⟨hlt, by simp; have := h.few; omega, ?_⟩
  refine tk_step h.left ?_
  rw [hd, tk_word r hb hl, ← hd, span_take hs, span_drop hs hkj]

theorem TkAt.num {l : List UInt8} {k j : Nat} {done : List Tok} {c : UInt8} {r : List UInt8} {n : Nat} (h : TkAt l k done) (hd : l.drop k = c :: r) (hl : letterB c.toNat = false) (hg : digitB c.toNat = true) (hkj : k ≤ j) (hs : spanL numB (l.drop k) = j - k)
    (hn : numL ((l.drop k).take (j - k)) = some n) : k < j ∧ TkAt l j (done ++ [⟨2, n, []⟩]) := by
  have hb : blankB c.toNat = false := by have := digit_blank c; rw [hg] at this; simpa using this
  have hp : pb numB c = true := by simp [pb, numB, hg]
  have hlt : k < j := by
    rw [hd] at hs
    simp only [spanL, List.takeWhile_cons, hp, if_true, List.length_cons] at hs
    omega
  refine ⟨hlt, by simp; have := h.few; omega, ?_⟩
  refine tk_step h.left ?_
  rw [← span_take hs] at hn
  rw [hd] at hn
  rw [hd, tk_num r hb hl hg hn, ← hd, span_drop hs hkj]

theorem TkAt.nonum {l : List UInt8} {k j : Nat} {done : List Tok} {c : UInt8} {r : List UInt8} (h : TkAt l k done) (hd : l.drop k = c :: r) (hl : letterB c.toNat = false) (hg : digitB c.toNat = true) (hs : spanL numB (l.drop k) = j - k)
    (hn : numL ((l.drop k).take (j - k)) = none) : toks (code l) = none := by
  have hb : blankB c.toNat = false := by have := digit_blank c; rw [hg] at this; simpa using this
  rw [← span_take hs, hd] at hn
  rw [h.left, hd, tk_nonum r hb hl hg hn]
  rfl

theorem TkAt.blank {l : List UInt8} {k : Nat} {done : List Tok} {c : UInt8} {r : List UInt8} (h : TkAt l k done) (hd : l.drop k = c :: r) (hb : blankB c.toNat = true) : TkAt l (k + 1) done := by
  have hr : l.drop (k + 1) = r := by rw [← List.drop_drop, hd]; rfl
  refine ⟨by have := h.few; omega, ?_⟩
  rw [h.left, hd, tk_blank r hb, hr]

theorem TkAt.rem {l : List UInt8} {k : Nat} {done : List Tok} {r : List UInt8} (h : TkAt l k done) (hd : l.drop k = 59 :: r) : toks (code l) = some done := by
  rw [h.left, hd, tk_rem]
  simp

theorem TkAt.fin {l : List UInt8} {k : Nat} {done : List Tok} (h : TkAt l k done) (hd : l.length ≤ k) : toks (code l) = some done := by
  rw [h.left, List.drop_eq_nil_of_le hd, tk_nil]
  simp

theorem TkAt.nosign {l : List UInt8} {k : Nat} {done : List Tok} {c : UInt8} {r : List UInt8} (h : TkAt l k done) (hd : l.drop k = c :: r) (hb : blankB c.toNat = false) (hl : letterB c.toNat = false) (hg : digitB c.toNat = false) (h59 : c ≠ 59) (hs : signN (c :: r) = 0) : toks (code l) = none := by
  rw [h.left, hd, tk_nosign r hb hl hg h59 hs]
  rfl

theorem TkAt.sign {l : List UInt8} {k m : Nat} {done : List Tok} {c : UInt8} {r : List UInt8} (h : TkAt l k done) (hd : l.drop k = c :: r) (hb : blankB c.toNat = false) (hl : letterB c.toNat = false) (hg : digitB c.toNat = false) (h59 : c ≠ 59) (hs : signN (c :: r) = m) (hm : 0 < m) :
    TkAt l (k + m) (done ++ [⟨3, 0, (l.drop k).take m⟩]) := by
  refine ⟨by simp; have := h.few; omega, ?_⟩
  refine tk_step h.left ?_
  rw [hd, tk_sign r hb hl hg h59 (by omega), hs, ← hd, List.drop_drop]

end Go.Proofs.YtajeijhmlkbjgaaDoor
