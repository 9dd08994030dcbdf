/- The contract of scan's Print. Written, and read again: the tokens of a printed line. -/
import Derived.Test.YtgjmbjahgcndnaaGreatDoorPut26
import Derived.Laws.CopyOwn
import Derived.Deep.OwnRows
import Derived.Lib.ItoaMem
import Derived.Lib.AppendIntMem
import Derived.Lib.ItoaLen
import Derived.Lib.Join
namespace Go.Proofs.YtgjmbjahgcndnaaGreatDoor.Sc
open Go.RowKit

/-- What is written of a token. -/
def prT (t : Tok) : List UInt8 := if t.kind = 2 then Lib.itoa t.n else t.text
def printL (ts : List Tok) : List UInt8 := Lib.join (ts.map prT) [32]
def prB (t : Tok) : ByteArray := ⟨(prT t).toArray⟩

def Fits (ts : List Tok) : Prop := ∀ i (h : i < ts.length), -9223372036854775808 ≤ ts[i].n ∧ ts[i].n ≤ 9223372036854775807

theorem info9 : (Tryz.prog.info? 9).map (fun i => (i.zero, i.size, i.bytes)) = some (some (.string ⟨#[]⟩), 1, 16) := by kernel_rfl

theorem made_at (w : World) (n i : Nat) (hi : i < n) : (w.alloc (.cells (madeCells #[.string ⟨#[]⟩] n) 9)).cell? ⟨w.heap.size, i, none⟩ = some (.string ⟨#[]⟩) := by
  have h := heap_alloc_new w (.cells (madeCells #[.string ⟨#[]⟩] n) 9)
  have h2 := toList_madeCells_one (.string ⟨#[]⟩) n
  unfold World.cell?
  simp only [h]
  rw [← Array.getElem?_toList, h2]
  simp [hi]
theorem made_fr (w : World) (n i : Nat) : (w.alloc (.cells (madeCells #[.string ⟨#[]⟩] n) 9)).frozen? ⟨w.heap.size, i, none⟩ = false := by
  have h := heap_alloc_new w (.cells (madeCells #[.string ⟨#[]⟩] n) 9)
  unfold World.frozen?
  simp only [h]
  simp

/-- The row of texts, of which the first k are written. -/
def Texts (wr : World) (g : Nat) (ts : List Tok) (k : Nat) : Prop :=
  (∀ i (h : i < ts.length), wr.cell? ⟨g, i, none⟩ = some (.string (if i < k then prB ts[i] else ⟨#[]⟩))) ∧ ∀ i, wr.frozen? ⟨g, i, none⟩ = false

theorem Texts.set {wr : World} {g k : Nat} {ts : List Tok} (h : Texts wr g ts k) (hk : k < ts.length) {x : ByteArray} (hx : x = prB ts[k]) : Texts (wr.setCell ⟨g, k, none⟩ (.string x)) g ts (k + 1) := by
  refine ⟨fun i hi => ?_, fun i => by rw [World.frozen?_setCell]; exact h.2 i⟩
  by_cases e : i = k
  · subst e
    rw [World.cell?_setCell_same _ _ _ (h.1 i hi), if_pos (by omega), hx]
  · rw [World.cell?_setCell_other _ _ _ _ (by intro e'; cases e'; exact e rfl), h.1 i hi]
    by_cases h2 : i < k
    · rw [if_pos h2, if_pos (by omega)]
    · rw [if_neg h2, if_neg (by omega)]

/-- Written twice at one place. -/
theorem Texts.set2 {wr : World} {g k : Nat} {ts : List Tok} (h : Texts wr g ts k) (hk : k < ts.length) {x y : ByteArray} (hx : x = prB ts[k]) : Texts ((wr.setCell ⟨g, k, none⟩ (.string y)).setCell ⟨g, k, none⟩ (.string x)) g ts (k + 1) := by
  have hc : (wr.setCell ⟨g, k, none⟩ (.string y)).cell? ⟨g, k, none⟩ = some (.string y) := World.cell?_setCell_same _ _ _ (h.1 k hk)
  refine ⟨fun i hi => ?_, fun i => by rw [World.frozen?_setCell, World.frozen?_setCell]; exact h.2 i⟩
  by_cases e : i = k
  · subst e
    rw [World.cell?_setCell_same _ _ _ hc, if_pos (by omega), hx]
  · rw [World.cell?_setCell_other _ _ _ _ (by intro e'; cases e'; exact e rfl), World.cell?_setCell_other _ _ _ _ (by intro e'; cases e'; exact e rfl), h.1 i hi]
    by_cases h2 : i < k
    · rw [if_pos h2, if_pos (by omega)]
    · rw [if_neg h2, if_neg (by omega)]

theorem Texts.below {w w' : World} {B g k : Nat} {ts : List Tok} (h : Texts w g ts k) (hb : Below B w w') (hg : g < B) : Texts w' g ts k :=
  ⟨fun i hi => by rw [hb.cell (by exact hg)]; exact h.1 i hi, fun i => by rw [hb.frozen (by exact hg)]; exact h.2 i⟩

theorem Texts.redo {wr w2 : World} {g k : Nat} {ts : List Tok} {x y : ByteArray} (h : Texts wr g ts k) (hk : k < ts.length) (hc : ∀ i, w2.cell? ⟨g, i, none⟩ = (wr.setCell ⟨g, k, none⟩ (.string y)).cell? ⟨g, i, none⟩) (hf : ∀ i, w2.frozen? ⟨g, i, none⟩ = false) (hx : x = prB ts[k]) : Texts (w2.setCell ⟨g, k, none⟩ (.string x)) g ts (k + 1) := by
  have hck : w2.cell? ⟨g, k, none⟩ = some (.string y) := by rw [hc]; exact World.cell?_setCell_same _ _ _ (h.1 k hk)
  refine ⟨fun i hi => ?_, fun i => by rw [World.frozen?_setCell]; exact hf i⟩
  by_cases e : i = k
  · subst e
    rw [World.cell?_setCell_same _ _ _ hck, if_pos (by omega), hx]
  · rw [World.cell?_setCell_other _ _ _ _ (by intro e'; cases e'; exact e rfl), hc, World.cell?_setCell_other _ _ _ _ (by intro e'; cases e'; exact e rfl), h.1 i hi]
    by_cases h2 : i < k
    · rw [if_pos h2, if_pos (by omega)]
    · rw [if_neg h2, if_neg (by omega)]

theorem itoa_any (n : Int) (h0 : -9223372036854775808 ≤ n) (h1 : n ≤ 9223372036854775807) (w : World) (hG : Glob w) :
    Calls Tryz.prog 5 #[.int .i64 n] w fun e w' => e = .returned (.string ⟨(Lib.itoa n).toArray⟩) ∧ Below w.heap.size w w' := by
  refine (Tryz.strconv_Itoa n h0 h1 w hG.tab).mono ?_
  rintro e w' ⟨rfl, k, os, rfl⟩
  exact ⟨rfl, Lib.below_grow _ _ (Nat.le_refl _) _ _⟩

end Go.Proofs.YtgjmbjahgcndnaaGreatDoor.Sc

namespace Go.Proofs.YtgjmbjahgcndnaaGreatDoor.Sc
open Go.RowKit

def Good (t : Tok) : Prop :=
  (∃ c r, t = ⟨1, 0, c :: r⟩ ∧ pb letterB c = true ∧ r.all (pb wordB) = true) ∨
  (∃ u : Nat, t = ⟨2, u, []⟩ ∧ u ≤ 4294967295) ∨
  (∃ l, t = ⟨3, 0, l⟩ ∧ (l = [60, 60] ∨ l = [62, 62] ∨ ∃ c, l = [c] ∧ pb signB c = true))

theorem takeWhile_all (p : UInt8 → Bool) : ∀ l : List UInt8, (l.takeWhile p).all p = true
  | [] => rfl
  | c :: r => by
    rw [List.takeWhile_cons]
    split
    · rename_i h; simp only [List.all_cons, h, takeWhile_all p r, Bool.and_self]
    · rfl

theorem hasPrefix_two {l : List UInt8} {a b : UInt8} (h : Lib.hasPrefix l [a, b] = true) : ∃ r, l = a :: b :: r := by
  unfold Lib.hasPrefix at h
  obtain ⟨r, rfl⟩ := List.isPrefixOf_iff_prefix.1 h
  exact ⟨r, rfl⟩

theorem nextT_good {l r : List UInt8} {t : Tok} (h : nextT l = .tok t r) : Good t := by
  cases l with
  | nil => simp [nextT] at h
  | cons c tl =>
    rw [nextT_cons] at h
    split at h
    · rename_i hc
      injection h with h1 _
      subst h1
      have hw : pb wordB c = true := by unfold pb wordB at *; simp [hc]
      refine Or.inl ⟨c, tl.takeWhile (pb wordB), ?_, hc, takeWhile_all _ _⟩
      rw [List.takeWhile_cons, if_pos hw]
    · split at h
      · split at h
        · cases h
        · rename_i n hn
          injection h with h1 _
          subst h1
          refine Or.inr (Or.inl ⟨n, rfl, ?_⟩)
          unfold numL at hn
          split at hn
          · exact parseU_le hn
          · exact parseU_le hn
      · split at h
        · cases h
        · rename_i hs
          injection h with h1 _
          subst h1
          refine Or.inr (Or.inr ⟨_, rfl, ?_⟩)
          unfold signN at hs ⊢
          split at hs
          · rename_i hp
            rw [if_pos hp]
            rcases hp with hp | hp
            · obtain ⟨r', e⟩ := hasPrefix_two hp
              rw [e]; exact Or.inl rfl
            · obtain ⟨r', e⟩ := hasPrefix_two hp
              rw [e]; exact Or.inr (Or.inl rfl)
          · rename_i hp
            rw [if_neg hp]
            simp only at hs ⊢
            split at hs
            · rename_i hc
              rw [if_pos hc]
              exact Or.inr (Or.inr ⟨c, rfl, hc⟩)
            · exact absurd rfl hs

theorem toksF_good : ∀ (f : Nat) (l : List UInt8) (ts : List Tok), toksF f l = some ts → ∀ t, t ∈ ts → Good t
  | 0, _, _, h => by simp [toksF] at h
  | f + 1, l, ts, h => by
    unfold toksF at h
    split at h
    · simp at h; subst h; intro t ht; simp at ht
    · cases h
    · rename_i t r hn
      obtain ⟨ts', h1, rfl⟩ := Option.map_eq_some_iff.1 h
      intro t' ht'
      rcases List.mem_cons.1 ht' with rfl | ht'
      · exact nextT_good hn
      · exact toksF_good f r ts' h1 t' ht'

/-- A list of bytes ends there. -/
def Ends (l : List UInt8) : Prop := l = [] ∨ ∃ r, l = 32 :: r

theorem span_stop {p : UInt8 → Bool} (h32 : p 32 = false) : ∀ (l rest : List UInt8), l.all p = true → Ends rest → (l ++ rest).takeWhile p = l ∧ (l ++ rest).dropWhile p = rest
  | [], rest, _, he => by
    rcases he with rfl | ⟨r, rfl⟩
    · exact ⟨rfl, rfl⟩
    · simp [h32]
  | c :: l, rest, ha, he => by
    simp only [List.all_cons, Bool.and_eq_true] at ha
    have ih := span_stop h32 l rest ha.2 he
    simp [ha.1, ih.1, ih.2]

theorem decDigits_all (u : Nat) : (Lib.decDigits u).all (pb digitB) = true := by
  induction u using Nat.strongRecOn with
  | _ u ih =>
    by_cases h : u < 10
    · rw [Lib.decDigits_one h]
      have : (48 + u) % 256 = 48 + u := by omega
      simp [pb, digitB, this]; omega
    · rw [Lib.decDigits, dif_neg h, List.all_append, ih (u / 10) (by omega)]
      have : (48 + u % 10) % 256 = 48 + u % 10 := by omega
      simp [pb, digitB, this]; omega

theorem decDigits_ne (u : Nat) : Lib.decDigits u ≠ [] := by
  intro h
  have := Lib.decDigits_length u
  have := Lib.nDigits_pos u
  rw [h] at *
  simp at *
  omega

theorem parseN_append (l : List UInt8) (c : UInt8) : ∀ acc n, parseN 10 acc l = some n → parseN 10 acc (l ++ [c]) = parseN 10 n [c] := by
  induction l with
  | nil => intro acc n h; simp [parseN] at h; subst h; rfl
  | cons d r ih =>
    intro acc n h
    unfold parseN at h
    rw [List.cons_append, parseN]
    split at h
    · cases h
    · rename_i v hv
      split at h
      · rename_i hle
        simp only [if_pos hle]
        exact ih _ _ h
      · cases h

theorem parse_digits (u : Nat) : u ≤ 4294967295 → parseN 10 0 (Lib.decDigits u) = some u := by
  induction u using Nat.strongRecOn with
  | _ u ih =>
    intro hu
    by_cases h : u < 10
    · rw [Lib.decDigits_one h]
      have e : (UInt8.ofNat (48 + u)).toNat = 48 + u := by simp; omega
      have hv : digV 10 (UInt8.ofNat (48 + u)).toNat = some u := by rw [e]; simp [digV]; omega
      simp only [parseN, hv]
      rw [if_pos (by omega)]
      simp
    · rw [Lib.decDigits, dif_neg h]
      rw [parseN_append _ _ 0 (u / 10) (ih (u / 10) (by omega) (by omega))]
      have e : (UInt8.ofNat (48 + u % 10)).toNat = 48 + u % 10 := by simp; omega
      have hv : digV 10 (UInt8.ofNat (48 + u % 10)).toNat = some (u % 10) := by rw [e]; simp [digV]; omega
      simp only [parseN, hv]
      rw [if_pos (by omega)]
      simp; omega

theorem digit_num {c : UInt8} (h : pb digitB c = true) : pb numB c = true := by unfold pb numB at *; simp [h]
theorem digit_noletter {c : UInt8} (h : pb digitB c = true) : pb letterB c = false := by
  unfold pb digitB letterB at *
  simp at h ⊢
  omega
theorem letter_word {c : UInt8} (h : pb letterB c = true) : pb wordB c = true := by unfold pb wordB at *; simp [h]
theorem num_numL {u : Nat} (hu : u ≤ 4294967295) : numL (Lib.decDigits u) = some u := by
  have hall := decDigits_all u
  have hp : Lib.hasPrefix (Lib.decDigits u) [48, 120] = false := by
    cases h : Lib.hasPrefix (Lib.decDigits u) [48, 120]
    · rfl
    · obtain ⟨r, e⟩ := hasPrefix_two h
      rw [e] at hall
      simp [pb, digitB] at hall
  unfold numL parseU
  rw [if_neg (by simp [hp]), if_neg (decDigits_ne u), parse_digits u hu]

theorem sign_nodigit {c : UInt8} (h : pb signB c = true) : pb letterB c = false ∧ pb digitB c = false ∧ pb blankB c = false ∧ c ≠ 60 ∧ c ≠ 62 ∧ c ≠ 59 := by
  have := all8 (fun c => !pb signB c || (!pb letterB c && !pb digitB c && !pb blankB c && c != 60 && c != 62 && c != 59)) (by decide +kernel) c
  simp [h] at this
  obtain ⟨⟨⟨⟨⟨a, b⟩, d⟩, e⟩, f⟩, g⟩ := this
  exact ⟨a, b, d, e, f, g⟩

/-- What is written of a token, with a blank or nothing behind it, is read as that token. -/
theorem next_pr {t : Tok} (ht : Good t) {rest : List UInt8} (he : Ends rest) : nextT (prT t ++ rest) = .tok t rest ∧ (prT t ++ rest).dropWhile (pb blankB) = prT t ++ rest ∧ (∀ c, c ∈ prT t → c ≠ 59) := by
  rcases ht with ⟨c, r, rfl, hc, hr⟩ | ⟨u, rfl, hu⟩ | ⟨l, rfl, hl⟩
  · have hall : (c :: r).all (pb wordB) = true := by simp [letter_word hc, hr]
    have hs := span_stop (p := pb wordB) (by decide) (c :: r) rest hall he
    have e : prT ⟨1, 0, c :: r⟩ = c :: r := rfl
    rw [e]
    have hb : pb blankB c = false := by
      have := all8 (fun c => !pb letterB c || !pb blankB c) (by decide +kernel) c
      simp [hc] at this
      exact this
    refine ⟨?_, ?_, ?_⟩
    · rw [List.cons_append] at hs ⊢
      rw [nextT_cons, if_pos hc, hs.1, hs.2]
    · rw [List.cons_append, List.dropWhile_cons, hb]
      rfl
    · intro d hd e
      subst e
      have := List.all_eq_true.1 hall 59 hd
      revert this
      decide
  · have hall := decDigits_all u
    have hne := decDigits_ne u
    have e : prT ⟨2, u, []⟩ = Lib.decDigits u := by
      show Lib.itoa (u : Int) = _
      exact Lib.itoa_nonneg u
    rw [e]
    have hn := num_numL hu
    have hs := span_stop (p := pb numB) (by decide) (Lib.decDigits u) rest (by
      rw [List.all_eq_true] at hall ⊢
      intro x hx
      exact digit_num (hall x hx)) he
    cases hd : Lib.decDigits u with
    | nil => exact absurd hd hne
    | cons c r =>
      rw [hd] at hall hs hn
      have hc : pb digitB c = true := by simp only [List.all_cons, Bool.and_eq_true] at hall; exact hall.1
      have hb : pb blankB c = false := by
        have := all8 (fun c => !pb digitB c || !pb blankB c) (by decide +kernel) c
        simp [hc] at this
        exact this
      refine ⟨?_, ?_, ?_⟩
      · rw [List.cons_append] at hs ⊢
        rw [nextT_cons, if_neg (by simp [digit_noletter hc]), if_pos hc, hs.1, hs.2, hn]
      · rw [List.cons_append, List.dropWhile_cons, hb]
        rfl
      · intro d hd e
        subst e
        have := List.all_eq_true.1 hall 59 hd
        revert this
        decide
  · have e : prT ⟨3, 0, l⟩ = l := rfl
    rw [e]
    rcases hl with rfl | rfl | ⟨c, rfl, hc⟩
    · refine ⟨?_, rfl, ?_⟩
      · show nextT (60 :: 60 :: rest) = _
        rw [nextT_cons, if_neg (by decide), if_neg (by decide)]
        have : signN (60 :: 60 :: rest) = 2 := by
          unfold signN
          rw [if_pos (Or.inl (by simp [Lib.hasPrefix, List.isPrefixOf]))]
        rw [this]
        rfl
      · intro d hd; simp at hd; subst hd; decide
    · refine ⟨?_, rfl, ?_⟩
      · show nextT (62 :: 62 :: rest) = _
        rw [nextT_cons, if_neg (by decide), if_neg (by decide)]
        have : signN (62 :: 62 :: rest) = 2 := by
          unfold signN
          rw [if_pos (Or.inr (by simp [Lib.hasPrefix, List.isPrefixOf]))]
        rw [this]
        rfl
      · intro d hd; simp at hd; subst hd; decide
    · obtain ⟨h1, h2, h3, h4, h5, h6⟩ := sign_nodigit hc
      refine ⟨?_, ?_, ?_⟩
      · show nextT (c :: rest) = _
        rw [nextT_cons, if_neg (by simp [h1]), if_neg (by simp [h2])]
        have : signN (c :: rest) = 1 := by
          unfold signN
          rw [if_neg]
          · simp only [if_pos hc]
          · intro h
            rcases h with h | h
            · obtain ⟨r, e⟩ := hasPrefix_two h
              injection e with e1 _
              exact h4 e1
            · obtain ⟨r, e⟩ := hasPrefix_two h
              injection e with e1 _
              exact h5 e1
        rw [this]
        rfl
      · show (c :: rest).dropWhile (pb blankB) = _
        rw [List.dropWhile_cons, h3]
        rfl
      · intro d hd; simp at hd; subst hd; exact h6

def tailL (ts : List Tok) : List UInt8 := Lib.joinTail [32] (ts.map prT)
theorem tailL_cons (t : Tok) (r : List Tok) : tailL (t :: r) = 32 :: (prT t ++ tailL r) := by simp [tailL, Lib.joinTail]
theorem tailL_ends (ts : List Tok) : Ends (tailL ts) := by
  cases ts with
  | nil => exact Or.inl rfl
  | cons t r => exact Or.inr ⟨_, tailL_cons t r⟩
theorem printL_cons (t : Tok) (r : List Tok) : printL (t :: r) = prT t ++ tailL r := by
  unfold printL tailL
  rw [List.map_cons, Lib.join_cons]

theorem toks_tail : ∀ ts : List Tok, (∀ t, t ∈ ts → Good t) → toks (tailL ts) = some ts
  | [], _ => rfl
  | t :: r, h => by
    have hn := next_pr (h t (by simp)) (tailL_ends r)
    have ih := toks_tail r (fun t' ht' => h t' (by simp [ht']))
    have hd : (tailL (t :: r)).dropWhile (pb blankB) = prT t ++ tailL r := by
      rw [tailL_cons, List.dropWhile_cons, if_pos (by decide)]
      exact hn.2.1
    rw [toks_tok (by rw [hd]; exact hn.1), ih]
    rfl

theorem toks_print (ts : List Tok) (h : ∀ t, t ∈ ts → Good t) : toks (printL ts) = some ts := by
  cases ts with
  | nil => rfl
  | cons t r =>
    have hn := next_pr (h t (by simp)) (tailL_ends r)
    have ih := toks_tail r (fun t' ht' => h t' (by simp [ht']))
    rw [printL_cons, toks_tok (by rw [hn.2.1]; exact hn.1), ih]
    rfl

theorem tail_nosemi : ∀ ts : List Tok, (∀ t, t ∈ ts → Good t) → ∀ c, c ∈ tailL ts → c ≠ 59
  | [], _, c, hc => by simp [tailL, Lib.joinTail] at hc
  | t :: r, h, c, hc => by
    rw [tailL_cons] at hc
    rcases List.mem_cons.1 hc with rfl | hc
    · decide
    · rcases List.mem_append.1 hc with hc | hc
      · exact (next_pr (h t (by simp)) (tailL_ends r)).2.2 c hc
      · exact tail_nosemi r (fun t' ht' => h t' (by simp [ht'])) c hc

theorem code_print (ts : List Tok) (h : ∀ t, t ∈ ts → Good t) : code (printL ts) = printL ts := by
  have hall : ∀ c, c ∈ printL ts → c ≠ 59 := by
    cases ts with
    | nil => intro c hc; simp [printL, Lib.join, List.intercalate] at hc
    | cons t r =>
      intro c hc
      rw [printL_cons] at hc
      rcases List.mem_append.1 hc with hc | hc
      · exact (next_pr (h t (by simp)) (tailL_ends r)).2.2 c hc
      · exact tail_nosemi r (fun t' ht' => h t' (by simp [ht'])) c hc
  unfold code
  generalize printL ts = l at hall
  induction l with
  | nil => rfl
  | cons c r ih =>
    rw [List.takeWhile_cons, if_pos (by simp [hall c (by simp)]), ih (fun d hd => hall d (by simp [hd]))]

theorem list_good (l : List UInt8) : ∀ t, t ∈ lineList l → Good t := by
  unfold lineList lineToks
  split
  · intro t ht; simp at ht
  · cases h : toks (code l) with
    | none => intro t ht; simp at ht
    | some ts =>
      intro t ht
      exact toksF_good _ _ ts h t ht

theorem print_short (l : List UInt8) (h : (printL (lineList l)).length ≤ 80) : lineErr (printL (lineList l)) = 0 ∧ lineList (printL (lineList l)) = lineList l :=
  line_done h (by rw [code_print _ (list_good l)]; exact toks_print _ (list_good l))

end Go.Proofs.YtgjmbjahgcndnaaGreatDoor.Sc
