import Derived.Test.YtfmljailbebfgaaGreatDoorPut30
import Derived.Lib.ItoaMem
import Derived.Lib.AppendIntMem
import Derived.Lib.ItoaLen
import Derived.Lib.Join
namespace Go.Proofs.YtfmljailbebfgaaGreatDoor.Sc
open Go.RowKit
def prT (t : Tok) : List UInt8 := if t.kind = 2 then Lib.itoa t.n else t.text
def qCx (ts : List Tok) : List UInt8 := Lib.join (ts.map prT) [32]
theorem itoa_any (n : Int) (h0 : -9223372036854775808 <= n) (h1 : n <= 9223372036854775807) (w : World) (hG : Glob w) :
  Calls Tryz.prog 7 #[.int .i64 n] w fun e w' => e = .returned (.string ⟨(Lib.itoa n).toArray⟩) /\ Below w.heap.size w w' := by
 refine (Tryz.strconv_Itoa n h0 h1 w hG.tab).mono ?_
 rintro e w' ⟨rfl, k, os, rfl⟩
 exact ⟨rfl, Lib.below_grow _ _ (Nat.le_refl _) _ _⟩
def Good (t : Tok) : Prop :=
 (∃ c r, t = ⟨1, 0, c :: r⟩ /\ pb qg c = true /\ r.all (pb qBb) = true) \/
 (∃ u : Nat, t = ⟨2, u, []⟩ /\ u <= 4294967295) \/
 (∃ l, t = ⟨3, 0, l⟩ /\ (l = [60, 60] \/ l = [62, 62] \/ ∃ c, l = [c] /\ pb qEl c = true))
theorem qCI {l : List UInt8} {a b : UInt8} (h : Lib.hasPrefix l [a, b] = true) : ∃ r, l = a :: b :: r := by
 unfold Lib.hasPrefix at h
 obtain ⟨r, rfl⟩ := List.isPrefixOf_iff_prefix.1 h
 exact ⟨r, rfl⟩
def Ends (l : List UInt8) : Prop := l = [] \/ ∃ r, l = 32 :: r
theorem qEV {p : UInt8 -> Bool} (h32 : p 32 = false) : ∀ (l rest : List UInt8), l.all p = true -> Ends rest -> (l ++ rest).takeWhile p = l /\ (l ++ rest).dropWhile p = rest
 | [], rest, _, he => by
   rcases he with rfl | ⟨r, rfl⟩
   ·exact ⟨rfl, rfl⟩
   ·simp [h32]
 | c :: l, rest, ha, he => by
   simp only [List.all_cons, Bool.and_eq_true] at ha
   have ih := qEV h32 l rest ha.2 he
   simp [ha.1, ih.1, ih.2]
theorem qCB (u : Nat) : (Lib.decDigits u).all (pb qo) = true := by
 induction u using Nat.strongRecOn with
 | _ u ih =>
   by_cases h : u < 10
   ·rw [Lib.decDigits_one h]
    have : (48 + u) % 256 = 48 + u := by omega
    simp [pb, qo, this]; omega
   ·rw [Lib.decDigits, dif_neg h, List.all_append, ih (u / 10) (by omega)]
    have : (48 + u % 10) % 256 = 48 + u % 10 := by omega
    simp [pb, qo, this]; omega
theorem qDo (u : Nat) : Lib.decDigits u ≠ [] := by
 intro h
 have := Lib.decDigits_length u
 have := Lib.nDigits_pos u
 rw [h] at *
 simp at *
 omega
theorem qF6 (l : List UInt8) (c : UInt8) : ∀ acc n, qAa 10 acc l = some n -> qAa 10 acc (l ++ [c]) = qAa 10 n [c] := by
 induction l with
 | nil => intro acc n h; simp [qAa] at h; subst h; rfl
 | cons d r ih =>
   intro acc n h
   unfold qAa at h
   rw [List.cons_append, qAa]
   split at h
   ·cases h
   ·rename_i v hv
    split at h
    ·rename_i hle
     simp only [if_pos hle]
     exact ih _ _ h
    ·cases h
theorem qGE (u : Nat) : u <= 4294967295 -> qAa 10 0 (Lib.decDigits u) = some u := by
 induction u using Nat.strongRecOn with
 | _ u ih =>
   intro hu
   by_cases h : u < 10
   ·rw [Lib.decDigits_one h]
    have e : (UInt8.ofNat (48 + u)).toNat = 48 + u := by simp; omega
    have hv : digV 10 (UInt8.ofNat (48 + u)).toNat = some u := by rw [e]; simp [digV]; omega
    simp only [qAa, hv]
    rw [if_pos (by omega)]
    simp
   ·rw [Lib.decDigits, dif_neg h]
    rw [qF6 _ _ 0 (u / 10) (ih (u / 10) (by omega) (by omega))]
    have e : (UInt8.ofNat (48 + u % 10)).toNat = 48 + u % 10 := by simp; omega
    have hv : digV 10 (UInt8.ofNat (48 + u % 10)).toNat = some (u % 10) := by rw [e]; simp [digV]; omega
    simp only [qAa, hv]
    rw [if_pos (by omega)]
    simp; omega
theorem qLl {c : UInt8} (h : pb qo c = true) : pb numB c = true := by unfold pb numB at *; simp [h]
theorem qEo {c : UInt8} (h : pb qo c = true) : pb qg c = false := by
 unfold pb qo qg at *
 simp at h ⊢
 omega
theorem qHJ {c : UInt8} (h : pb qg c = true) : pb qBb c = true := by unfold pb qBb at *; simp [h]
theorem num_numL {u : Nat} (hu : u <= 4294967295) : numL (Lib.decDigits u) = some u := by
 have hall := qCB u
 have hp : Lib.hasPrefix (Lib.decDigits u) [48, 120] = false := by
  cases h : Lib.hasPrefix (Lib.decDigits u) [48, 120]
  ·rfl
  ·obtain ⟨r, e⟩ := qCI h
   rw [e] at hall
   simp [pb, qo] at hall
 unfold numL qBA
 rw [if_neg (by simp [hp]), if_neg (qDo u), qGE u hu]
theorem qGI {c : UInt8} (h : pb qEl c = true) : pb qg c = false /\ pb qo c = false /\ pb qAC c = false /\ c ≠ 60 /\ c ≠ 62 /\ c ≠ 59 := by
 have := all8 (fun c => !pb qEl c || (!pb qg c && !pb qo c && !pb qAC c && c != 60 && c != 62 && c != 59)) (by decide +kernel) c
 simp [h] at this
 obtain ⟨⟨⟨⟨⟨a, b⟩, d⟩, e⟩, f⟩, g⟩ := this
 exact ⟨a, b, d, e, f, g⟩
theorem qFz {t : Tok} (ht : Good t) {rest : List UInt8} (he : Ends rest) : qBc (prT t ++ rest) = .tok t rest /\ (prT t ++ rest).dropWhile (pb qAC) = prT t ++ rest /\ (∀ c, c ∈ prT t -> c ≠ 59) := by
 rcases ht with ⟨c, r, rfl, hc, hr⟩ | ⟨u, rfl, hu⟩ | ⟨l, rfl, hl⟩
 ·have hall : (c :: r).all (pb qBb) = true := by simp [qHJ hc, hr]
  have hs := qEV (p := pb qBb) (by decide) (c :: r) rest hall he
  have e : prT ⟨1, 0, c :: r⟩ = c :: r := rfl
  rw [e]
  have hb : pb qAC c = false := by
   have := all8 (fun c => !pb qg c || !pb qAC c) (by decide +kernel) c
   simp [hc] at this
   exact this
  refine ⟨?_, ?_, ?_⟩
  ·rw [List.cons_append] at hs ⊢
   rw [qAz, if_pos hc, hs.1, hs.2]
  ·rw [List.cons_append, List.dropWhile_cons, hb]
   rfl
  ·intro d hd e
   subst e
   have := List.all_eq_true.1 hall 59 hd
   revert this
   decide
 ·have hall := qCB u
  have hne := qDo u
  have e : prT ⟨2, u, []⟩ = Lib.decDigits u := by
   show Lib.itoa (u : Int) = _
   exact Lib.itoa_nonneg u
  rw [e]
  have hn := num_numL hu
  have hs := qEV (p := pb numB) (by decide) (Lib.decDigits u) rest (by
   rw [List.all_eq_true] at hall ⊢
   intro x hx
   exact qLl (hall x hx)) he
  cases hd : Lib.decDigits u with
  | nil => exact absurd hd hne
  | cons c r =>
    rw [hd] at hall hs hn
    have hc : pb qo c = true := by simp only [List.all_cons, Bool.and_eq_true] at hall; exact hall.1
    have hb : pb qAC c = false := by
     have := all8 (fun c => !pb qo c || !pb qAC c) (by decide +kernel) c
     simp [hc] at this
     exact this
    refine ⟨?_, ?_, ?_⟩
    ·rw [List.cons_append] at hs ⊢
     rw [qAz, if_neg (by simp [qEo hc]), if_pos hc, hs.1, hs.2, hn]
    ·rw [List.cons_append, List.dropWhile_cons, hb]
     rfl
    ·intro d hd e
     subst e
     have := List.all_eq_true.1 hall 59 hd
     revert this
     decide
 ·have e : prT ⟨3, 0, l⟩ = l := rfl
  rw [e]
  rcases hl with rfl | rfl | ⟨c, rfl, hc⟩
  ·refine ⟨?_, rfl, ?_⟩
   ·show qBc (60 :: 60 :: rest) = _
    rw [qAz, if_neg (by decide), if_neg (by decide)]
    have : qA9 (60 :: 60 :: rest) = 2 := by
     unfold qA9
     rw [if_pos (Or.inl (by simp [Lib.hasPrefix, List.isPrefixOf]))]
    rw [this]
    rfl
   ·intro d hd; simp at hd; subst hd; decide
  ·refine ⟨?_, rfl, ?_⟩
   ·show qBc (62 :: 62 :: rest) = _
    rw [qAz, if_neg (by decide), if_neg (by decide)]
    have : qA9 (62 :: 62 :: rest) = 2 := by
     unfold qA9
     rw [if_pos (Or.inr (by simp [Lib.hasPrefix, List.isPrefixOf]))]
    rw [this]
    rfl
   ·intro d hd; simp at hd; subst hd; decide
  ·obtain ⟨h1, h2, h3, h4, h5, h6⟩ := qGI hc
   refine ⟨?_, ?_, ?_⟩
   ·show qBc (c :: rest) = _
    rw [qAz, if_neg (by simp [h1]), if_neg (by simp [h2])]
    have : qA9 (c :: rest) = 1 := by
     unfold qA9
     rw [if_neg]
     ·simp only [if_pos hc]
     ·intro h
      rcases h with h | h
      ·obtain ⟨r, e⟩ := qCI h
       injection e with e1 _
       exact h4 e1
      ·obtain ⟨r, e⟩ := qCI h
       injection e with e1 _
       exact h5 e1
    rw [this]
    rfl
   ·show (c :: rest).dropWhile (pb qAC) = _
    rw [List.dropWhile_cons, h3]
    rfl
   ·intro d hd; simp at hd; subst hd; exact h6
def qDt (ts : List Tok) : List UInt8 := Lib.joinTail [32] (ts.map prT)
theorem qCk (t : Tok) (r : List Tok) : qDt (t :: r) = 32 :: (prT t ++ qDt r) := by simp [qDt, Lib.joinTail]
theorem qCj (ts : List Tok) : Ends (qDt ts) := by
 cases ts with
 | nil => exact Or.inl rfl
 | cons t r => exact Or.inr ⟨_, qCk t r⟩
theorem qCr (t : Tok) (r : List Tok) : qCx (t :: r) = prT t ++ qDt r := by
 unfold qCx qDt
 rw [List.map_cons, Lib.join_cons]
theorem qG0 : ∀ ts : List Tok, (∀ t, t ∈ ts -> Good t) -> toks (qDt ts) = some ts
 | [], _ => rfl
 | t :: r, h => by
   have hn := qFz (h t (by simp)) (qCj r)
   have ih := qG0 r (fun t' ht' => h t' (by simp [ht']))
   have hd : (qDt (t :: r)).dropWhile (pb qAC) = prT t ++ qDt r := by
    rw [qCk, List.dropWhile_cons, if_pos (by decide)]
    exact hn.2.1
   rw [qFs (by rw [hd]; exact hn.1), ih]
   rfl
theorem qJF (ts : List Tok) (h : ∀ t, t ∈ ts -> Good t) : toks (qCx ts) = some ts := by
 cases ts with
 | nil => rfl
 | cons t r =>
   have hn := qFz (h t (by simp)) (qCj r)
   have ih := qG0 r (fun t' ht' => h t' (by simp [ht']))
   rw [qCr, qFs (by rw [hn.2.1]; exact hn.1), ih]
   rfl
theorem qEg : ∀ ts : List Tok, (∀ t, t ∈ ts -> Good t) -> ∀ c, c ∈ qDt ts -> c ≠ 59
 | [], _, c, hc => by simp [qDt, Lib.joinTail] at hc
 | t :: r, h, c, hc => by
   rw [qCk] at hc
   rcases List.mem_cons.1 hc with rfl | hc
   ·decide
   ·rcases List.mem_append.1 hc with hc | hc
    ·exact (qFz (h t (by simp)) (qCj r)).2.2 c hc
    ·exact qEg r (fun t' ht' => h t' (by simp [ht'])) c hc
theorem qJe (ts : List Tok) (h : ∀ t, t ∈ ts -> Good t) : code (qCx ts) = qCx ts := by
 have hall : ∀ c, c ∈ qCx ts -> c ≠ 59 := by
  cases ts with
  | nil => intro c hc; simp [qCx, Lib.join, List.intercalate] at hc
  | cons t r =>
    intro c hc
    rw [qCr] at hc
    rcases List.mem_append.1 hc with hc | hc
    ·exact (qFz (h t (by simp)) (qCj r)).2.2 c hc
    ·exact qEg r (fun t' ht' => h t' (by simp [ht'])) c hc
 unfold code
 generalize qCx ts = l at hall
 induction l with
 | nil => rfl
 | cons c r ih =>
   rw [List.takeWhile_cons, if_pos (by simp [hall c (by simp)]), ih (fun d hd => hall d (by simp [hd]))]
end Go.Proofs.YtfmljailbebfgaaGreatDoor.Sc
