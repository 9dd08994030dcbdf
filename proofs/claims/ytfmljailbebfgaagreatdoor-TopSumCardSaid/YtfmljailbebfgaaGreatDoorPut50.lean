import Derived.Test.YtfmljailbebfgaaGreatDoorPut23
import Derived.Test.YtfmljailbebfgaaGreatDoorPut49
namespace Go.Proofs.YtfmljailbebfgaaGreatDoor
open Go.RowKit
def qCM (gp n : Nat) : List It := [qDd 1 24 4 0 0 (.slot gp 0), qAG 2 3 0 0 0, qAG 3 3 1 0 n, qAG 4 26 2 4 0, qAG 5 6 0 2 0, qAG 6 4 4 0 4, qAG 7 16 1 0 0, qDd 8 18 0 0 0 (.val qz 0), qAG 9 27 0 0 1, qAG 10 27 0 0 0, qGA 11 4, numI 11 4 qBK 0]
def lngI : Nat -> List Int -> List It
 | _, [] => []
 | k, n :: r => numI k 4 [] n :: lngI (k + 1) r
theorem qD1 : ∀ (l : List Int) (k : Nat), (lngI k l).length = l.length
 | [], k => rfl
 | n :: l, k => by simp [lngI, qD1 l (k + 1)]
theorem qGD (x : Int) : ∀ (l : List Int) (k : Nat), lngI k (l ++ [x]) = lngI k l ++ [numI ((k + l.length : Nat) : Int) 4 [] x]
 | [], k => by simp [lngI]
 | n :: l, k => by
   rw [List.cons_append, lngI, qGD x l (k + 1), lngI, List.length_cons]
   rw [show k + 1 + l.length = k + (l.length + 1) by omega]
   rfl
def qCH : List (List UInt8 × Nat) := [(qz, 3), (qBK, 12)]
def psH : List Int := [0, 2, 4, 6, 8, 10, 12, 14, 16, 18, 20, 20]
def itsS (gp : Nat) (l : List Int) : List It := qCM gp l.length ++ lngI 13 l
theorem qCw (gp n : Nat) (T : List It) : qY 0 (qCM gp n ++ T) = psH ++ qY 24 T := by kernel_rfl
theorem qIJ : ∀ (l : List Int) (k : Nat) (p : Int) (j : Nat), 0 <= p -> j <= l.length -> (qY p (lngI k l)).getD j 0 = p + 4 * j
 | [], k, p, j, hp, hj => by
   obtain rfl : j = 0 := by simpa using hj
   simp [lngI, qY]
 | a :: r, k, p, 0, hp, hj => by simp [lngI, qY]
 | a :: r, k, p, j + 1, hp, hj => by
   have h1 : j <= r.length := by simpa using hj
   have ih := qIJ r (k + 1) (p + 4) j (by omega) h1
   simp only [lngI, qY, List.getD_cons_succ]
   have e : p + ((numI (k : Int) 4 [] a).size + ((numI (k : Int) 4 [] a).upTo - p.tmod (numI (k : Int) 4 [] a).upTo).tmod (numI (k : Int) 4 [] a).upTo) = p + 4 := by
    show p + (4 + (1 - p.tmod 1).tmod 1) = p + 4
    simp
   rw [e, ih]
   omega
theorem qGs (u : Un) (ps : List Int) : ∀ (l : List Int) (k0 k : Nat) (p : Int) (code : List UInt8) (rs : List Re), 0 <= p -> p % 4 = 0 -> (∀ j, j <= l.length -> ps.getD (k + j) 0 = p + 4 * j) -> qA2 u ps k code rs (lngI k0 l) = .ok (code ++ Si.words l, rs)
 | [], k0, k, p, code, rs, _, _, h => by simp [lngI, qA2, Si.words]
 | a :: r, k0, k, p, code, rs, hp, h4, h => by
   have h0 := h 0 (by simp)
   have h1 := h 1 (by simp)
   have ih := qGs u ps r (k0 + 1) (k + 1) (p + 4) (code ++ be4 a) rs (by omega) (by omega) (by
    intro j hj
    have := h (j + 1) (by simpa using hj)
    rw [show k + 1 + j = k + (j + 1) by omega, this]
    omega)
   rw [lngI, qA2]
   rw [Nat.add_zero] at h0
   rw [h0, h1, if_neg (by
    show ¬ (p + 4 * ((0 : Nat) : Int)).tmod 4 ≠ 0
    rw [Int.tmod_eq_emod_of_nonneg (by omega)]
    omega)]
   have hb : qEM u ps (p + 4 * ((0 : Nat) : Int)) (p + 4 * ((1 : Nat) : Int) - (p + 4 * ((0 : Nat) : Int))) rs (numI (k0 : Int) 4 [] a) = .ok (be4 a, rs) := rfl
   rw [hb]
   simp only []
   rw [ih]
   simp [Si.words]
theorem qJW (gp n : Nat) (h0 : 1 <= n) (h1 : n <= 20) (its T : List It) (R : List Int) : qA2 ⟨qCH, its, fun _ => 11⟩ (psH ++ 24 :: R) 0 [] [] (qCM gp n ++ T) = qA2 ⟨qCH, its, fun _ => 11⟩ (psH ++ 24 :: R) 12 (Si.qAR (Si.sum4 n) ++ [0, 0, 0, 0]) [⟨20, 4, [], 24⟩] T := by
 rcases twenty h0 h1 with rfl | rfl | rfl | rfl | rfl | rfl | rfl | rfl | rfl | rfl | rfl | rfl | rfl | rfl | rfl | rfl | rfl | rfl | rfl | rfl <;> kernel_rfl
def sumC (l : List Int) : List UInt8 := Si.qAR (Si.sum4 l.length) ++ [0, 0, 0, 0] ++ Si.words l
def qBR (l : List Int) : Ob := ⟨sumC l, [⟨qz, 6⟩, ⟨qBK, 24⟩], [⟨20, 4, [], 24⟩]⟩
theorem qMK (gp : Nat) (l : List Int) (j : Nat) (hj : j <= l.length) : (qY 0 (itsS gp l)).getD (12 + j) 0 = 24 + 4 * j := by
 rw [itsS, qCw]
 have := qIJ l 13 24 j (by decide) hj
 rw [<- this]
 simp only [List.getD_eq_getElem?_getD]
 rw [List.getElem?_append_right (by simp [psH])]
 simp [psH]
theorem qKi (gp : Nat) (l : List Int) (h0 : 1 <= l.length) (h1 : l.length <= 20) : qA2 ⟨qCH, itsS gp l, fun _ => 11⟩ (qY 0 (itsS gp l)) 0 [] [] (itsS gp l) = .ok (sumC l, [⟨20, 4, [], 24⟩]) := by
 obtain ⟨R, hR⟩ : ∃ R, qY 24 (lngI 13 l) = 24 :: R := by cases l with | nil => exact ⟨_, rfl⟩ | cons a r => exact ⟨_, rfl⟩
 have hps : qY 0 (itsS gp l) = psH ++ 24 :: R := by rw [itsS, qCw, hR]
 have e : qA2 ⟨qCH, itsS gp l, fun _ => 11⟩ (psH ++ 24 :: R) 0 [] [] (itsS gp l) = qA2 ⟨qCH, itsS gp l, fun _ => 11⟩ (psH ++ 24 :: R) 12 (Si.qAR (Si.sum4 l.length) ++ [0, 0, 0, 0]) [⟨20, 4, [], 24⟩] (lngI 13 l) := qJW gp l.length h0 h1 _ _ _
 rw [hps, e, qGs _ _ l 13 12 24 _ _ (by decide) (by decide) (fun j hj => by rw [<- hps]; exact qMK gp l j hj)]
 rfl
theorem sum_syms (gp : Nat) (l : List Int) : qCN ⟨qCH, itsS gp l, fun _ => 11⟩ (qY 0 (itsS gp l)) = [⟨qz, 6⟩, ⟨qBK, 24⟩] := by
 have h12 := qMK gp l 0 (by omega)
 have h3 : (qY 0 (itsS gp l)).getD 3 0 = 6 := by rw [itsS, qCw]; rfl
 simp only [qCN, qCH, List.map_cons, List.map_nil, h3]
 rw [Nat.add_zero] at h12
 rw [h12]
 rfl
theorem sum_last (gp : Nat) (l : List Int) (h1 : l.length <= 20) : (qY 0 (itsS gp l)).getD (itsS gp l).length 0 <= 8000 := by
 have hl : (itsS gp l).length = 12 + l.length := by simp [itsS, qCM, qD1]; omega
 rw [hl, qMK gp l _ (Nat.le_refl _)]
 omega
end Go.Proofs.YtfmljailbebfgaaGreatDoor
namespace Go.Proofs.YtfmljailbebfgaaGreatDoor
open Go.RowKit Go.Maps Go.MapKept
def r2' : List UInt8 := [114, 50]
def r4' : List UInt8 := [114, 52]
theorem reg_r2 : regU 1 r2' = 2 := by kernel_rfl
theorem qE9 : regU 1 r4' = 4 := by kernel_rfl
def iGet : Ins := ⟨movlL, [.ind r4', .reg r2'], 26⟩
def qLV : Ins := ⟨[97, 100, 100], [.reg r2', .reg r0'], 6⟩
theorem ok_iGet : iGet.Ok := by
 refine ⟨by decide, ?_, by simp [iGet], by decide, ?_, by decide, by kernel_rfl, by kernel_rfl⟩
 ·intro k hk
  simp only [iGet, List.mem_cons, List.not_mem_nil, or_false] at hk
  rcases hk with rfl | rfl
  ·show 0 <= regU 1 r4'; rw [qE9]; decide
  ·show 0 <= regU 1 r2'; rw [reg_r2]; decide
 ·rw [qBS]
  kernel_rfl
theorem ok_iAddR : qLV.Ok := by
 refine ⟨by decide, ?_, by simp [qLV], by decide, ?_, by decide, by kernel_rfl, by kernel_rfl⟩
 ·intro k hk
  simp only [qLV, List.mem_cons, List.not_mem_nil, or_false] at hk
  rcases hk with rfl | rfl
  ·show 0 <= regU 1 r2'; rw [reg_r2]; decide
  ·show 0 <= regU 1 r0'; rw [qCp]; decide
 ·rw [qBS]
  kernel_rfl
theorem it_get (ln : Int) : iGet.it ln = qAG ln 26 2 4 0 := by kernel_rfl
theorem it_addR (ln : Int) : qLV.it ln = qAG ln 6 0 2 0 := by kernel_rfl
def ksS (n : Nat) : List (Int × Lk) := [(2, ⟨none, iMov 0 r0'⟩), (3, ⟨none, iMov n r1'⟩), (4, ⟨some qz, iGet⟩), (5, ⟨none, qLV⟩), (6, ⟨none, iAdd 4 r4'⟩), (7, ⟨none, iDt r1'⟩), (8, ⟨none, iBf qz⟩), (9, ⟨none, iTr 1⟩), (10, ⟨none, iTr 0⟩)]
theorem w_movN (n : Nat) (h1 : n <= 20) : Isa.qV 3 1 0 (n : Int) = 0 := (Si.qIG 1 n (.inr rfl) (by omega) (by omega))
theorem ok_ksS (n : Nat) (h1 : n <= 20) : ∀ a, a ∈ ksS n -> a.2.Ok := by
 intro a ha
 simp only [ksS, List.mem_cons, List.not_mem_nil, or_false] at ha
 have hr0 : 0 <= regU 1 r0' := by rw [qCp]; decide
 have hr1 : 0 <= regU 1 r1' := by rw [qD4]; decide
 have hr4 : 0 <= regU 1 r4' := by rw [qE9]; decide
 have hw : wrap32 (n : Int) = n := by unfold wrap32; omega
 rcases ha with rfl | rfl | rfl | rfl | rfl | rfl | rfl | rfl | rfl
 ·exact ⟨qEc 0 r0' hr0 (by rw [qCp]; kernel_rfl), by simp⟩
 ·exact ⟨qEc n r1' hr1 (by rw [qD4, hw]; exact w_movN n h1), by simp⟩
 ·refine ⟨ok_iGet, fun nm h => ?_⟩
  obtain rfl : qz = nm := by simpa using h
  exact ⟨by decide, by unfold regU; decide, by decide⟩
 ·exact ⟨ok_iAddR, by simp⟩
 ·exact ⟨qMH 4 r4' hr4 (by rw [qE9]; kernel_rfl), by simp⟩
 ·exact ⟨ok_iDt r1' hr1 (by rw [qD4]; kernel_rfl), by simp⟩
 ·exact ⟨ok_iBf qz (by decide) (by unfold regU; decide), by simp⟩
 ·exact ⟨qEu 1 (by kernel_rfl), by simp⟩
 ·exact ⟨qEu 0 (by kernel_rfl), by simp⟩
def qEK (gp : Nat) : It := qDd 1 24 4 0 0 (.slot gp 0)
theorem its_ksS (gp n : Nat) (h1 : n <= 20) : (qEK gp :: itsG (ksS n)) ++ [qGA 11 4, numI 11 4 qBK 0] = qCM gp n := by
 have hw : wrap32 (n : Int) = n := by unfold wrap32; omega
 simp only [itsG, ksS, List.map_cons, List.map_nil, it_mov, it_add, it_dt, it_tr, it_bf, it_get, it_addR, qCp, qD4, qE9, hw]
 simp [qCM, qEK, ledI, wrap32]
 rfl
theorem labs_ksS (n : Nat) : qBO 1 (ksS n) = [(qz, 3)] := rfl
def lnsT : Nat -> List Int -> List (Int × List Tk)
 | _, [] => []
 | k, n :: r => ((k : Int), [wd qLN, qEJ n]) :: lnsT (k + 1) r
theorem qHy : ∀ (l : List Int) (k : Nat), (lnsT k l).length = l.length
 | [], k => rfl
 | n :: l, k => by simp [lnsT, qHy l (k + 1)]
theorem qJ5 : ∀ (l : List Int) (k j : Nat) (h : j < l.length), (lnsT k l)[j]? = some (((k + j : Nat) : Int), [wd qLN, qEJ l[j]])
 | n :: l, k, 0, _ => rfl
 | n :: l, k, j + 1, h => by
   have := qJ5 l (k + 1) j (by simpa using h)
   rw [lnsT, List.getElem?_cons_succ, this, show k + 1 + j = k + (j + 1) by omega]
   rfl
def lsH (n : Nat) : List (Int × List Tk) := (1, qD3 qBK r4') :: ((ksS n).map (fun a => (a.1, a.2.toks)) ++ [(11, [wd qH7]), (12, [wd qBK, sg 58])])
def lsS (l : List Int) : List (Int × List Tk) := lsH l.length ++ lnsT 13 l
theorem qGR (b : List (List Sc.Tok)) : ∀ (a : List (List Sc.Tok)) (k : Nat), qBv k (a ++ b) = qBv k a ++ qBv (k + a.length) b
 | [], k => by simp [qBv]
 | x :: a, k => by
   rw [List.cons_append, qBv, qGR b a (k + 1), qBv, List.length_cons, show k + 1 + a.length = k + (a.length + 1) by omega]
   rfl
theorem qEz : ∀ (l : List Int) (k : Nat), (qBv k ((qEd l).map (·.2))).map lnOf = lnsT k l
 | [], k => rfl
 | n :: l, k => by
   have := qEz l (k + 1)
   simp only [qEd, List.map_cons, qBv, lnsT] at this ⊢
   rw [this]
   rfl
theorem qGP (l : List Int) : (qJl l).map lnOf = lsS l := by
 rw [qJl, sumL, List.map_append, qGR, List.map_append]
 have e : (qBv (1 + ((qGZ l.length).map (·.2)).length) ((qEd l).map (·.2))).map lnOf = lnsT 13 l := qEz l 13
 rw [e]
 rfl
def StS (w : World) (gu mb gp mi : Nat) (l : List Int) (k : Nat) (W : World) : Prop :=
 (k = 0 /\ ∃ ln, AlQ w W gu mb gp mi ln [] [] none none) \/
 (∃ j, k = j + 1 /\ j <= 9 /\ ∃ ln, AlQ w W gu mb gp mi ln (qBO 1 ((ksS l.length).take j)) (qEK gp :: itsG ((ksS l.length).take j)) (some (qBK, 0)) none) \/
 (k = 11 /\ ∃ ln gp' mi', AlQ w W gu mb gp' mi' ln [(qz, 3)] (qCM gp l.length) none (some (gp, 11)) /\ mi' ≠ mb) \/
 (∃ j, k = 12 + j /\ j <= l.length /\ ∃ ln gp' mi', AlQ w W gu mb gp' mi' ln qCH (qCM gp l.length ++ lngI 13 (l.take j)) none (some (gp, 11)) /\ mi' ≠ mb)
theorem AlQ.has {w W : World} {gu mb gp mi : Nat} {ln : Int} {labs : List (List UInt8 × Nat)} {its : List It} {q : Option (List UInt8 × Int)} {old : Option (Nat × Nat)} (h : AlQ w W gu mb gp mi ln labs its q old) : Bx w W /\ ∃ c, W.heap[gu]? = some (.cells c 143 (0, 0)) /\ (∃ z, c[1]? = some (.int .i64 z)) := by
 obtain ⟨nv, hu, _⟩ := h.ur
 obtain ⟨_, _, x1, _⟩ := hu.its
 exact ⟨h.bx, _, x1, ln, rfl⟩
theorem fin_sum (w W : World) (gu mb gp gp' mi' : Nat) (ln : Int) (l : List Int) (h0 : 1 <= l.length) (h1 : l.length <= 20) (hv : ∀ n, n ∈ l -> 0 <= n /\ n <= 1000000) (hn : AlQ w W gu mb gp' mi' ln qCH (itsS gp l) none (some (gp, 11))) : FinQ w W gu mb qCH (fun _ => 11) (itsS gp l) (qBR l) := by
 have hlen : (itsS gp l).length = 12 + l.length := by simp [itsS, qCM, qD1]; omega
 obtain ⟨vv, mv, hpo⟩ := hn.od gp 11 rfl
 have hlng : ∀ (l : List Int) (k : Nat), (∀ n, n ∈ l -> 0 <= n /\ n <= 1000000) -> ∀ i, i ∈ lngI k l -> ∃ k n, i = numI k 4 [] n /\ 0 <= n /\ n <= 1000000 := by
  intro l
  induction l with
  | nil => intro k _ i hi; simp [lngI] at hi
  | cons a r ih =>
    intro k h i hi
    simp only [lngI, List.mem_cons] at hi
    rcases hi with rfl | hi
    ·exact ⟨_, a, rfl, h a (by simp)⟩
    ·exact ih (k + 1) (fun n hn => h n (by simp [hn])) i hi
 have hall : ∀ i, i ∈ itsS gp l -> qGy qCH i /\ EndK W (fun _ => 11) (12 + l.length) i := by
  intro i hi
  rw [itsS, List.mem_append] at hi
  rcases hi with hi | hi
  ·simp only [qCM, List.mem_cons, List.not_mem_nil, or_false] at hi
   have pl : ∀ ln op n m imm, qGy qCH (qAG ln op n m imm) /\ EndK W (fun _ => 11) (12 + l.length) (qAG ln op n m imm) := fun ln op n m imm => ⟨trivial, ⟨by show (0 : Int) <= 2; decide, by show (2 : Int) <= 6; decide, by show (1 : Int) <= 1; decide, by show (1 : Int) <= 16; decide⟩, ⟨by show (1 : Int) <= 2; decide, by show (2 : Int) <= 16; decide⟩, by show (2 : Int) <= 4; decide, trivial⟩
   rcases hi with rfl | rfl | rfl | rfl | rfl | rfl | rfl | rfl | rfl | rfl | rfl | rfl
   ·exact ⟨fun h => absurd h (show Isa.qK 24 ≠ 4 by decide), ⟨by show (0 : Int) <= 2; decide, by show (2 : Int) <= 6; decide, by show (1 : Int) <= 1; decide, by show (1 : Int) <= 16; decide⟩, ⟨by show (1 : Int) <= 2; decide, by show (2 : Int) <= 16; decide⟩, by show (2 : Int) <= 4; decide, rfl, rfl, by show 11 + 0 <= 12 + l.length; omega, vv, mv, hpo⟩
   ·exact pl _ _ _ _ _
   ·exact pl _ _ _ _ _
   ·exact pl _ _ _ _ _
   ·exact pl _ _ _ _ _
   ·exact pl _ _ _ _ _
   ·exact pl _ _ _ _ _
   ·exact ⟨fun _ => ⟨.inl rfl, qz, 0, 3, rfl, by decide, by decide, by decide, by decide, rfl⟩, ⟨by decide, by decide, by decide, by decide⟩, ⟨by decide, by decide⟩, by decide, rfl, rfl, by decide, by decide, by decide⟩
   ·exact pl _ _ _ _ _
   ·exact pl _ _ _ _ _
   ·exact ⟨trivial, ⟨by decide, by decide, by decide, by decide⟩, ⟨by decide, by decide⟩, by decide, trivial⟩
   ·exact ⟨trivial, ⟨by decide, by decide, by decide, by decide⟩, ⟨by decide, by decide⟩, by decide, .inr (.inr rfl), rfl, by decide, by decide, by decide⟩
  ·obtain ⟨k, n, rfl, n0, n1⟩ := hlng l 13 hv i hi
   exact ⟨trivial, ⟨by show (0 : Int) <= 4; decide, by show (4 : Int) <= 6; decide, by show (1 : Int) <= 1; decide, by show (1 : Int) <= 16; decide⟩, ⟨by show (1 : Int) <= 4; decide, by show (4 : Int) <= 16; decide⟩, by show (4 : Int) <= 4; decide, .inr (.inr rfl), rfl, by show (0 : Nat) <= maxLen; omega, by omega, by omega⟩
 have hlb : ∀ nm k, qP nm qCH = some k -> k <= 12 := by
  intro nm k hk
  unfold qCH qP at hk
  split at hk
  ·injection hk with hk; omega
  ·unfold qP at hk
   split at hk
   ·injection hk with hk; omega
   ·simp [qP] at hk
 refine ⟨fun i hi => (hall i hi).1, fun i hi => by rw [hlen]; exact (hall i hi).2, by omega, by omega, fun nm k hk => by have := hlb nm k hk; omega, ?_, by decide, sum_last gp l h1, ?_, qKi gp l h0 h1, (sum_syms gp l).symm, ?_⟩
 ·intro j hj
  have h2 : j = 0 \/ j = 1 := by simp [qCH] at hj; omega
  rcases h2 with rfl | rfl
  ·exact ⟨rfl, by show (5 : Nat) <= maxLen; decide⟩
  ·exact ⟨rfl, by show (3 : Nat) <= maxLen; decide⟩
 ·have hz : ∀ (r : List Int) (k0 k : Nat) (u : Un) (ps : List Int), (qAr u ps k (lngI k0 r)).2 = false := by
   intro r
   induction r with
   | nil => intro k0 k u ps; rfl
   | cons a r ih =>
     intro k0 k u ps
     rw [lngI, qAr, if_neg (by rintro ⟨_, h⟩; exact absurd h (by show ¬ false = true; decide))]
     exact ih (k0 + 1) (k + 1) u ps
  obtain ⟨R, hR⟩ : ∃ R, qY 24 (lngI 13 l) = 24 :: R := by cases l with | nil => exact ⟨_, rfl⟩ | cons a r => exact ⟨_, rfl⟩
  have hps : qY 0 (itsS gp l) = psH ++ 24 :: R := by rw [itsS, qCw, hR]
  rw [hps]
  have e : (qAr ⟨qCH, itsS gp l, fun _ => 11⟩ (psH ++ 24 :: R) 0 (qCM gp l.length ++ lngI 13 l)).2 = (qAr ⟨qCH, itsS gp l, fun _ => 11⟩ (psH ++ 24 :: R) 12 (lngI 13 l)).2 := by kernel_rfl
  rw [show itsS gp l = qCM gp l.length ++ lngI 13 l from rfl] at e ⊢
  rw [e]
  exact hz _ _ _ _ _
 ·have : (sumC l).length = 24 + 4 * l.length := by
   unfold sumC
   rw [List.length_append, List.length_append, Si.qCe, Si.qDC]
   simp
  exact ⟨by show (sumC l).length <= 100000; omega, by show (1 : Nat) <= 100000; decide⟩
theorem qFc (n : Nat) : (ksS n).length = 9 := rfl
theorem qFx (n : Nat) : (lsH n).length = 12 := rfl
theorem qFw (l : List Int) : (lsS l).length = 12 + l.length := by rw [lsS, List.length_append, qFx, qHy]
theorem lsS_mid (l : List Int) (j : Nat) (hj : j < 9) : (lsS l)[j + 1]? = some ((ksS l.length)[j].1, (ksS l.length)[j].2.toks) := by
 rw [lsS, List.getElem?_append_left (by rw [qFx]; omega), lsH, List.getElem?_cons_succ, List.getElem?_append_left (by rw [List.length_map, qFc]; omega), List.getElem?_map, List.getElem?_eq_getElem (by rw [qFc]; omega)]
 rfl
theorem lsS_end (l : List Int) (j : Nat) (hj : j < l.length) : (lsS l)[12 + j]? = some (((13 + j : Nat) : Int), [wd qLN, qEJ l[j]]) := by
 rw [lsS, List.getElem?_append_right (by rw [qFx]; omega), qFx, show 12 + j - 12 = j by omega]
 exact qJ5 l 13 j hj
theorem free_sum (n j : Nat) (hj : j < 9) : ∀ nm, (ksS n)[j].2.lab = some nm -> qP nm (qBO 1 ((ksS n).take j)) = none := by
 intro nm h
 have h9 : j = 0 \/ j = 1 \/ j = 2 \/ j = 3 \/ j = 4 \/ j = 5 \/ j = 6 \/ j = 7 \/ j = 8 := by omega
 rcases h9 with rfl | rfl | rfl | rfl | rfl | rfl | rfl | rfl | rfl <;> first | rfl | (exact absurd h (by simp [ksS]))
theorem qL9 (w W1 : World) (gu mb gp mi : Nat) (l : List Int) (h0 : 1 <= l.length) (h1 : l.length <= 20) (hv : ∀ n, n ∈ l -> 0 <= n /\ n <= 1000000) (hA : qAL w) (h : qJm w W1 gu mb gp mi) : Makes w gu (lsS l) (qBR l) W1 := by
 have hge := h.ge
 have hsz := hA.isa.sz
 refine ⟨⟨StS w gu mb gp mi l, fun W => ∃ ln gp' mi', AlQ w W gu mb gp' mi' ln qCH (itsS gp l) none (some (gp, 11)), fun W' => RdyQ w W' gu (qBR l), .inl ⟨rfl, 0, AlQ.of h.al⟩, ?_, ?_, ?_, ?_, ?_⟩⟩
 ·rintro k W (⟨_, ln, hn⟩ | ⟨j, _, _, ln, hn⟩ | ⟨_, ln, g1, g2, hn, _⟩ | ⟨j, _, _, ln, g1, g2, hn, _⟩)
  ·exact hn.has
  ·exact hn.has
  ·exact hn.has
  ·exact hn.has
 ·rintro k hk W v hST hv2
  have hkl : k < 12 + l.length := by rw [<- qFw]; exact hk
  have at_ : ∀ x, (lsS l)[k]? = some x -> (lsS l)[k] = x := fun x e => by
   rw [List.getElem?_eq_getElem hk] at e
   exact Option.some.inj e
  rcases hST with ⟨rfl, ln, hn⟩ | ⟨j, rfl, hj, ln, hn⟩ | ⟨rfl, ln, gp', mi', hn, hne⟩ | ⟨j, rfl, hj, ln, gp', mi', hn, hne⟩
  ·have e := at_ (1, qD3 qBK r4') rfl
   rw [e] at hv2 ⊢
   refine (qI3 w _ gu mb gp mi v 1 [] [] none qBK r4' (by decide) (by rw [qE9]; decide) hA hge h.ne (hn.line hge.1 1 _) (fun _ _ e => by cases e) (by simp) (by kernel_rfl) hv2).mono ?_
   rintro r w' ⟨rfl, hr⟩
   rw [qE9] at hr
   exact ⟨rfl, .inr (.inl ⟨0, rfl, by omega, 1, hr⟩)⟩
  ·by_cases hj9 : j < 9
   ·have e := at_ _ (lsS_mid l j hj9)
    rw [e] at hv2 ⊢
    have hli : (qEK gp :: itsG ((ksS l.length).take j)).length = j + 1 := by simp [itsG, qFc]; omega
    have hll := qD9 ((ksS l.length).take j) 1
    rw [List.length_take] at hll
    refine (qIc w _ gu mb gp mi v (ksS l.length)[j].1 _ _ (some (qBK, 0)) none (ksS l.length)[j].2 (ok_ksS l.length h1 _ (List.getElem_mem _)) hA ⟨hge.1, hge.2.1⟩ h.ne (hn.line hge.1 _ _) (by omega) (by omega) (free_sum l.length j hj9) hv2).mono ?_
    rintro r w' ⟨rfl, hr⟩
    refine ⟨rfl, .inr (.inl ⟨j + 1, rfl, by omega, (ksS l.length)[j].1, ?_⟩)⟩
    have hj9' : j < (ksS l.length).length := hj9
    have e1 : qBO 1 ((ksS l.length).take (j + 1)) = qBO 1 ((ksS l.length).take j) ++ (ksS l.length)[j].2.labs (qEK gp :: itsG ((ksS l.length).take j)).length := by
     rw [List.take_succ_eq_append_getElem hj9', qDN, hli, List.length_take, Nat.min_eq_left (by omega), Nat.add_comm]
    have e2 : qEK gp :: itsG ((ksS l.length).take (j + 1)) = (qEK gp :: itsG ((ksS l.length).take j)) ++ [(ksS l.length)[j].2.ins.it (ksS l.length)[j].1] := by
     rw [List.take_succ_eq_append_getElem hj9']
     simp only [itsG, List.map_append, List.map_cons, List.map_nil, List.cons_append]
    rw [e1, e2]
    exact hr
   ·obtain rfl : j = 9 := by omega
    have e := at_ (11, [wd qH7]) rfl
    rw [e] at hv2 ⊢
    have et : (ksS l.length).take 9 = ksS l.length := rfl
    rw [et] at hn
    refine (qJR w _ gu mb gp mi v 11 _ _ qBK 0 hge (hn.line hge.1 11 _) (by simp [itsG, qFc]) hv2).mono ?_
    rintro r w' ⟨rfl, gp', mi', hr, _, hne⟩
    rw [its_ksS gp l.length h1, labs_ksS] at hr
    exact ⟨rfl, .inr (.inr (.inl ⟨rfl, 11, gp', mi', hr, hne⟩))⟩
  ·have e := at_ (12, [wd qBK, sg 58]) rfl
   rw [e] at hv2 ⊢
   refine (read_lab w _ gu mb gp' mi' v 12 _ _ qBK none _ ⟨by decide, by unfold regU; decide, by decide⟩ hA ⟨hge.1, hge.2.1⟩ hne (hn.line hge.1 12 _) (by simp [qCM]) (by simp) (by decide) hv2).mono ?_
   rintro r w' ⟨rfl, hr⟩
   refine ⟨rfl, .inr (.inr (.inr ⟨0, rfl, by omega, 12, gp', mi', ?_, hne⟩))⟩
   have e1 : qCM gp l.length ++ lngI 13 (l.take 0) = qCM gp l.length := by simp [lngI]
   rw [e1]
   exact hr
  ·have hj' : j < l.length := by omega
   have e := at_ _ (lsS_end l j hj')
   rw [e] at hv2 ⊢
   have hn0 := hv l[j] (List.getElem_mem _)
   refine (qJg w _ gu mb gp' mi' v ((13 + j : Nat) : Int) _ _ l[j] none _ hA hge.1 (hn.line hge.1 _ _) (by simp [qCM, qD1]; omega) hn0.1 hn0.2 hv2).mono ?_
   rintro r w' ⟨rfl, hr⟩
   refine ⟨rfl, .inr (.inr (.inr ⟨j + 1, rfl, by omega, ((13 + j : Nat) : Int), gp', mi', ?_, hne⟩))⟩
   have e1 : qCM gp l.length ++ lngI 13 (l.take (j + 1)) = (qCM gp l.length ++ lngI 13 (l.take j)) ++ [numI ((13 + j : Nat) : Int) 4 [] l[j]] := by
    rw [List.take_succ_eq_append_getElem hj', qGD, List.length_take, Nat.min_eq_left (by omega), List.append_assoc]
   rw [e1]
   exact hr
 ·rintro W hST
  rw [qFw] at hST
  rcases hST with ⟨e, _⟩ | ⟨j, e, hj, _⟩ | ⟨e, _⟩ | ⟨j, e, hj, ln, gp', mi', hn, hne⟩
  ·omega
  ·omega
  ·omega
  ·obtain rfl : j = l.length := by omega
   rw [List.take_length] at hn
   have hp := hn.po
   obtain ⟨nv, hu, _⟩ := hn.ur
   obtain ⟨_, _, x1, _⟩ := hu.its
   refine (qDj gu gp' none 0 W (qB x1 rfl) (qB hp.1 rfl)).mono ?_
   rintro r w' ⟨rfl, rfl⟩
   exact ⟨rfl, ln, gp', mi', hn⟩
 ·rintro W ⟨ln, gp', mi', hn⟩
  exact qIC w W gu mb gp' mi' ln qCH (fun _ => 11) (itsS gp l) none _ (qBR l) hA hge.1 hn (fin_sum w W gu mb gp gp' mi' ln l h0 h1 hv hn)
 ·rintro W' hr
  exact qFB w W' gu (qBR l) hA hge.1 hr
theorem unit_sum (v : Value) (l : List Int) (w : World) (hA : qAL w) (h0 : 1 <= l.length) (h1 : l.length <= 20) (hn : ∀ n, n ∈ l -> 0 <= n /\ n <= 1000000) (hv : Sc.qCL w v (sumS l)) :
  Calls Tryz.prog 25 #[v] w fun e w' => (∃ ca cl cc sa sl sc qa ql qc, e = .returned (.tuple #[.agg #[.slice ca cl cc, .slice sa sl sc, .slice qa ql qc], .agg #[.int .i64 0, .int .i64 0]]) /\ qBl w' (.slice ca cl cc) (.slice sa sl sc) (.slice qa ql qc) (qBR l)) /\ Below w.heap.size w w' := by
 have hlen : (qJl l).length = 12 + l.length := by
  have := congrArg List.length (qGP l)
  rw [List.length_map, qFw] at this
  exact this
 refine qIA v (sumS l) (qJl l) (qBR l) w hv (sum_src l h0 h1 hn) (by omega) (qKr l) hA.gl ?_
 intro u W hbw hl
 rw [qGP] at hl
 have hAW : qAL W := ⟨hA.isa.below hbw hA.isa.sz, hA.frm.below hbw hA.frm.sz, KL.below hA.ex hbw, hA.gl.below hbw hA.gl.sz⟩
 exact qGN u _ _ W hl (by rw [qFw]; omega) (fun gu mb gp mi W1 h => qL9 W W1 gu mb gp mi l h0 h1 hn hAW h)
end Go.Proofs.YtfmljailbebfgaaGreatDoor
