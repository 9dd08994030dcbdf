import Derived.Test.YtfmljailbebfgaaGreatDoorPut31
import Derived.Lib.ItoaMem
import Derived.Lib.AppendIntMem
import Derived.Lib.ItoaLen
import Derived.Lib.Join
namespace Go.Proofs.YtfmljailbebfgaaGreatDoor.Sc
open Go.RowKit
def prT (t : Tok) : List UInt8 := if t.kind = 2 then Lib.itoa t.n else t.text
def printL (ts : List Tok) : List UInt8 := Lib.join (ts.map prT) [32]
def prB (t : Tok) : ByteArray := ⟨(prT t).toArray⟩
def Texts (wr : World) (g : Nat) (ts : List Tok) (k : Nat) : Prop :=
 (∀ i (h : i < ts.length), wr.cell? ⟨g, i, none⟩ = some (.string (if i < k then prB ts[i] else ⟨#[]⟩))) /\ ∀ i, wr.frozen? ⟨g, i, none⟩ = false
theorem itoa_any (n : Int) (h0 : -9223372036854775808 <= n) (h1 : n <= 9223372036854775807) (w : World) (hG : Glob w) :
  Calls Tryz.prog 7 #[.int .i64 n] w fun e w' => e = .returned (.string ⟨(Lib.itoa n).toArray⟩) /\ Below w.heap.size w w' := by
 refine (Tryz.strconv_Itoa n h0 h1 w hG.tab).mono ?_
 rintro e w' ⟨rfl, k, os, rfl⟩
 exact ⟨rfl, Lib.below_grow _ _ (Nat.le_refl _) _ _⟩
def Good (t : Tok) : Prop :=
 (∃ c r, t = ⟨1, 0, c :: r⟩ /\ pb letterB c = true /\ r.all (pb wordB) = true) \/
 (∃ u : Nat, t = ⟨2, u, []⟩ /\ u <= 4294967295) \/
 (∃ l, t = ⟨3, 0, l⟩ /\ (l = [60, 60] \/ l = [62, 62] \/ ∃ c, l = [c] /\ pb signB c = true))
theorem qAW {l : List UInt8} {a b : UInt8} (h : Lib.hasPrefix l [a, b] = true) : ∃ r, l = a :: b :: r := by
 unfold Lib.hasPrefix at h
 obtain ⟨r, rfl⟩ := List.isPrefixOf_iff_prefix.1 h
 exact ⟨r, rfl⟩
def Ends (l : List UInt8) : Prop := l = [] \/ ∃ r, l = 32 :: r
theorem qCE {p : UInt8 -> Bool} (h32 : p 32 = false) : ∀ (l rest : List UInt8), l.all p = true -> Ends rest -> (l ++ rest).takeWhile p = l /\ (l ++ rest).dropWhile p = rest
 | [], rest, _, he => by
   rcases he with rfl | ⟨r, rfl⟩
   ·exact ⟨rfl, rfl⟩
   ·simp [h32]
 | c :: l, rest, ha, he => by
   simp only [List.all_cons, Bool.and_eq_true] at ha
   have ih := qCE h32 l rest ha.2 he
   simp [ha.1, ih.1, ih.2]
theorem qAT (u : Nat) : (Lib.decDigits u).all (pb digitB) = true := by
 induction u using Nat.strongRecOn with
 | _ u ih =>
   by_cases h : u < 10
   ·rw [Lib.decDigits_one h]
    have : (48 + u) % 256 = 48 + u := by omega
    simp [pb, digitB, this]; omega
   ·rw [Lib.decDigits, dif_neg h, List.all_append, ih (u / 10) (by omega)]
    have : (48 + u % 10) % 256 = 48 + u % 10 := by omega
    simp [pb, digitB, this]; omega
theorem qBm (u : Nat) : Lib.decDigits u ≠ [] := by
 intro h
 have := Lib.decDigits_length u
 have := Lib.nDigits_pos u
 rw [h] at *
 simp at *
 omega
theorem qC9 (l : List UInt8) (c : UInt8) : ∀ acc n, parseN 10 acc l = some n -> parseN 10 acc (l ++ [c]) = parseN 10 n [c] := by
 induction l with
 | nil => intro acc n h; simp [parseN] at h; subst h; rfl
 | cons d r ih =>
   intro acc n h
   unfold parseN at h
   rw [List.cons_append, parseN]
   split at h
   ·cases h
   ·rename_i v hv
    split at h
    ·rename_i hle
     simp only [if_pos hle]
     exact ih _ _ h
    ·cases h
theorem qEK (u : Nat) : u <= 4294967295 -> parseN 10 0 (Lib.decDigits u) = some u := by
 induction u using Nat.strongRecOn with
 | _ u ih =>
   intro hu
   by_cases h : u < 10
   ·rw [Lib.decDigits_one h]
    have e : (UInt8.ofNat (48 + u)).toNat = 48 + u := by simp; omega
    have hv : digV 10 (UInt8.ofNat (48 + u)).toNat = some u := by rw [e]; simp [digV]; omega
    simp only [parseN, hv]
    rw [if_pos (by omega)]
    simp
   ·rw [Lib.decDigits, dif_neg h]
    rw [qC9 _ _ 0 (u / 10) (ih (u / 10) (by omega) (by omega))]
    have e : (UInt8.ofNat (48 + u % 10)).toNat = 48 + u % 10 := by simp; omega
    have hv : digV 10 (UInt8.ofNat (48 + u % 10)).toNat = some (u % 10) := by rw [e]; simp [digV]; omega
    simp only [parseN, hv]
    rw [if_pos (by omega)]
    simp; omega
theorem qIG {c : UInt8} (h : pb digitB c = true) : pb numB c = true := by unfold pb numB at *; simp [h]
theorem qCM {c : UInt8} (h : pb digitB c = true) : pb letterB c = false := by
 unfold pb digitB letterB at *
 simp at h ⊢
 omega
theorem qEs {c : UInt8} (h : pb letterB c = true) : pb wordB c = true := by unfold pb wordB at *; simp [h]
theorem num_numL {u : Nat} (hu : u <= 4294967295) : numL (Lib.decDigits u) = some u := by
 have hall := qAT u
 have hp : Lib.hasPrefix (Lib.decDigits u) [48, 120] = false := by
  cases h : Lib.hasPrefix (Lib.decDigits u) [48, 120]
  ·rfl
  ·obtain ⟨r, e⟩ := qAW h
   rw [e] at hall
   simp [pb, digitB] at hall
 unfold numL parseU
 rw [if_neg (by simp [hp]), if_neg (qBm u), qEK u hu]
theorem qDb {c : UInt8} (h : pb signB c = true) : pb letterB c = false /\ pb digitB c = false /\ pb blankB c = false /\ c ≠ 60 /\ c ≠ 62 /\ c ≠ 59 := by
 have := all8 (fun c => !pb signB c || (!pb letterB c && !pb digitB c && !pb blankB c && c != 60 && c != 62 && c != 59)) (by decide +kernel) c
 simp [h] at this
 obtain ⟨⟨⟨⟨⟨a, b⟩, d⟩, e⟩, f⟩, g⟩ := this
 exact ⟨a, b, d, e, f, g⟩
theorem qDR {t : Tok} (ht : Good t) {rest : List UInt8} (he : Ends rest) : nextT (prT t ++ rest) = .tok t rest /\ (prT t ++ rest).dropWhile (pb blankB) = prT t ++ rest /\ (∀ c, c ∈ prT t -> c ≠ 59) := by
 rcases ht with ⟨c, r, rfl, hc, hr⟩ | ⟨u, rfl, hu⟩ | ⟨l, rfl, hl⟩
 ·have hall : (c :: r).all (pb wordB) = true := by simp [qEs hc, hr]
  have hs := qCE (p := pb wordB) (by decide) (c :: r) rest hall he
  have e : prT ⟨1, 0, c :: r⟩ = c :: r := rfl
  rw [e]
  have hb : pb blankB c = false := by
   have := all8 (fun c => !pb letterB c || !pb blankB c) (by decide +kernel) c
   simp [hc] at this
   exact this
  refine ⟨?_, ?_, ?_⟩
  ·rw [List.cons_append] at hs ⊢
   rw [qp, if_pos hc, hs.1, hs.2]
  ·rw [List.cons_append, List.dropWhile_cons, hb]
   rfl
  ·intro d hd e
   subst e
   have := List.all_eq_true.1 hall 59 hd
   revert this
   decide
 ·have hall := qAT u
  have hne := qBm u
  have e : prT ⟨2, u, []⟩ = Lib.decDigits u := by
   show Lib.itoa (u : Int) = _
   exact Lib.itoa_nonneg u
  rw [e]
  have hn := num_numL hu
  have hs := qCE (p := pb numB) (by decide) (Lib.decDigits u) rest (by
   rw [List.all_eq_true] at hall ⊢
   intro x hx
   exact qIG (hall x hx)) he
  cases hd : Lib.decDigits u with
  | nil => exact absurd hd hne
  | cons c r =>
    rw [hd] at hall hs hn
    have hc : pb digitB c = true := by simp only [List.all_cons, Bool.and_eq_true] at hall; exact hall.1
    have hb : pb blankB c = false := by
     have := all8 (fun c => !pb digitB c || !pb blankB c) (by decide +kernel) c
     simp [hc] at this
     exact this
    refine ⟨?_, ?_, ?_⟩
    ·rw [List.cons_append] at hs ⊢
     rw [qp, if_neg (by simp [qCM hc]), if_pos hc, hs.1, hs.2, hn]
    ·rw [List.cons_append, List.dropWhile_cons, hb]
     rfl
    ·intro d hd e
     subst e
     have := List.all_eq_true.1 hall 59 hd
     revert this
     decide
 ·have e : prT ⟨3, 0, l⟩ = l := rfl
  rw [e]
  rcases hl with rfl | rfl | ⟨c, rfl, hc⟩
  ·refine ⟨?_, rfl, ?_⟩
   ·show nextT (60 :: 60 :: rest) = _
    rw [qp, if_neg (by decide), if_neg (by decide)]
    have : signN (60 :: 60 :: rest) = 2 := by
     unfold signN
     rw [if_pos (Or.inl (by simp [Lib.hasPrefix, List.isPrefixOf]))]
    rw [this]
    rfl
   ·intro d hd; simp at hd; subst hd; decide
  ·refine ⟨?_, rfl, ?_⟩
   ·show nextT (62 :: 62 :: rest) = _
    rw [qp, if_neg (by decide), if_neg (by decide)]
    have : signN (62 :: 62 :: rest) = 2 := by
     unfold signN
     rw [if_pos (Or.inr (by simp [Lib.hasPrefix, List.isPrefixOf]))]
    rw [this]
    rfl
   ·intro d hd; simp at hd; subst hd; decide
  ·obtain ⟨h1, h2, h3, h4, h5, h6⟩ := qDb hc
   refine ⟨?_, ?_, ?_⟩
   ·show nextT (c :: rest) = _
    rw [qp, if_neg (by simp [h1]), if_neg (by simp [h2])]
    have : signN (c :: rest) = 1 := by
     unfold signN
     rw [if_neg]
     ·simp only [if_pos hc]
     ·intro h
      rcases h with h | h
      ·obtain ⟨r, e⟩ := qAW h
       injection e with e1 _
       exact h4 e1
      ·obtain ⟨r, e⟩ := qAW h
       injection e with e1 _
       exact h5 e1
    rw [this]
    rfl
   ·show (c :: rest).dropWhile (pb blankB) = _
    rw [List.dropWhile_cons, h3]
    rfl
   ·intro d hd; simp at hd; subst hd; exact h6
def tailL (ts : List Tok) : List UInt8 := Lib.joinTail [32] (ts.map prT)
theorem qAs (t : Tok) (r : List Tok) : tailL (t :: r) = 32 :: (prT t ++ tailL r) := by simp [tailL, Lib.joinTail]
theorem qAu (ts : List Tok) : Ends (tailL ts) := by
 cases ts with
 | nil => exact Or.inl rfl
 | cons t r => exact Or.inr ⟨_, qAs t r⟩
theorem qA3 (t : Tok) (r : List Tok) : printL (t :: r) = prT t ++ tailL r := by
 unfold printL tailL
 rw [List.map_cons, Lib.join_cons]
theorem qDt : ∀ ts : List Tok, (∀ t, t ∈ ts -> Good t) -> toks (tailL ts) = some ts
 | [], _ => rfl
 | t :: r, h => by
   have hn := qDR (h t (by simp)) (qAu r)
   have ih := qDt r (fun t' ht' => h t' (by simp [ht']))
   have hd : (tailL (t :: r)).dropWhile (pb blankB) = prT t ++ tailL r := by
    rw [qAs, List.dropWhile_cons, if_pos (by decide)]
    exact hn.2.1
   rw [qDI (by rw [hd]; exact hn.1), ih]
   rfl
theorem qGe (ts : List Tok) (h : ∀ t, t ∈ ts -> Good t) : toks (printL ts) = some ts := by
 cases ts with
 | nil => rfl
 | cons t r =>
   have hn := qDR (h t (by simp)) (qAu r)
   have ih := qDt r (fun t' ht' => h t' (by simp [ht']))
   rw [qA3, qDI (by rw [hn.2.1]; exact hn.1), ih]
   rfl
theorem qBu : ∀ ts : List Tok, (∀ t, t ∈ ts -> Good t) -> ∀ c, c ∈ tailL ts -> c ≠ 59
 | [], _, c, hc => by simp [tailL, Lib.joinTail] at hc
 | t :: r, h, c, hc => by
   rw [qAs] at hc
   rcases List.mem_cons.1 hc with rfl | hc
   ·decide
   ·rcases List.mem_append.1 hc with hc | hc
    ·exact (qDR (h t (by simp)) (qAu r)).2.2 c hc
    ·exact qBu r (fun t' ht' => h t' (by simp [ht'])) c hc
theorem qGB (ts : List Tok) (h : ∀ t, t ∈ ts -> Good t) : code (printL ts) = printL ts := by
 have hall : ∀ c, c ∈ printL ts -> c ≠ 59 := by
  cases ts with
  | nil => intro c hc; simp [printL, Lib.join, List.intercalate] at hc
  | cons t r =>
    intro c hc
    rw [qA3] at hc
    rcases List.mem_append.1 hc with hc | hc
    ·exact (qDR (h t (by simp)) (qAu r)).2.2 c hc
    ·exact qBu r (fun t' ht' => h t' (by simp [ht'])) c hc
 unfold code
 generalize printL ts = l at hall
 induction l with
 | nil => rfl
 | cons c r ih =>
   rw [List.takeWhile_cons, if_pos (by simp [hall c (by simp)]), ih (fun d hd => hall d (by simp [hd]))]
end Go.Proofs.YtfmljailbebfgaaGreatDoor.Sc
