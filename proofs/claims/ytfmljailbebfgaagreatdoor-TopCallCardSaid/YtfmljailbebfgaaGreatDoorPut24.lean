import Derived.Test.YtfmljailbebfgaaGreatDoorPut23
namespace Go.Proofs.YtfmljailbebfgaaGreatDoor.Si
open Go.RowKit Isa
theorem at_of {l : List I4} {i : Nat} {k : I4} (h : l[i]? = some k) : ∃ hi : i < l.length, l[i] = k := List.getElem?_eq_some_iff.1 h
theorem ok_br (op d : Int) (hop : op = 17 \/ op = 18) (h0 : -128 <= d) (h1 : d <= 127) : (⟨op, 0, 0, d⟩ : I4).ok := by
 show qW op 0 0 d = 0
 rcases hop with rfl | rfl
 ·have a : qAC (qF 17) = -128 := rfl
  have b : qZ (qF 17) = 127 := rfl
  unfold qW
  rw [if_pos (by decide), a, b, if_pos ⟨by decide, by decide, by simp [qR]; omega⟩]
 ·have a : qAC (qF 18) = -128 := rfl
  have b : qZ (qF 18) = 127 := rfl
  unfold qW
  rw [if_pos (by decide), a, b, if_pos ⟨by decide, by decide, by simp [qR]; omega⟩]
theorem qMN (r d : Int) (hr : r = 0 \/ r = 1) (h0 : -128 <= d) (h1 : d <= 127) : (⟨3, r, 0, d⟩ : I4).ok := by
 show qW 3 r 0 d = 0
 have a : qAC (qF 3) = -128 := rfl
 have b : qZ (qF 3) = 127 := rfl
 unfold qW
 rcases hr with rfl | rfl
 ·rw [if_pos (by decide), a, b, if_pos ⟨by decide, by decide, by simp [qR]; omega⟩]
 ·rw [if_pos (by decide), a, b, if_pos ⟨by decide, by decide, by simp [qR]; omega⟩]
def SI (base : Int) (im : List UInt8) (a : Int) (k : I4) : Prop := k.ok /\ ∃ A B, im = A ++ (qC1 k.enc ++ B) /\ a = base + A.length /\ a % 2 = 0
theorem qDT {m : Ma} {a : Int} {k : I4} (h : SI m.base m.by' a k) : qe m a = 0 /\ fV m a 0 = k.op /\ fV m a 1 = k.n /\ fV m a 2 = k.m /\ fV m a 3 = k.imm := by
 obtain ⟨hok, A, B, hc, ha, h2⟩ := h
 have hh : hasB m a 2 = true := by
  unfold hasB
  rw [hc]
  simp only [Bool.and_eq_true, decide_eq_true_eq, List.length_append, qC1, List.length_cons, List.length_nil]
  refine ⟨?_, ?_, ?_⟩ <;> omega
 have hr := enc_in hok
 have hw : qBc m a = k.enc := by
  unfold qBc
  rw [hc]
  have hlen : a - m.base = (A.length : Int) := by omega
  rw [hlen]
  exact qMM _ _ _ hr.1 hr.2
 obtain ⟨t1, t2⟩ := turn1 hok
 unfold qe fV
 rw [if_pos hh, if_pos hh, if_pos hh, if_pos hh, if_pos hh, hw]
 refine ⟨t2, ?_, ?_, ?_, ?_⟩ <;> (unfold dV; show (match decV (encI k.op k.n k.m k.imm) with | .agg a => intOf (a.getD _ (.int .i64 0)) | _ => 0) = _; rw [t1]; rfl)
structure Ag (m : Ma) (base : Int) (im : List UInt8) (a : Int) (r : Nat -> Int) (tt : Bool) (told : List Int) (pr : Int) : Prop where
 base : m.base = base
 by' : m.by' = im
 pc : m.pc = a
 r : m.r = r
 t : m.t = tt
 told : m.told = told
 pr : m.pr = pr
def setF (r : Nat -> Int) (n : Nat) (v : Int) : Nat -> Int := fun k => if k = n then v else r k
section
variable {m : Ma} {base : Int} {im : List UInt8} {a : Int} {r : Nat -> Int} {tt : Bool} {told : List Int} {pr : Int}
theorem qFz {k : I4} (h : Ag m base im a r tt told pr) (hs : SI base im a k) (hl : qAX k.op = false) (hn : ¬ (k.op = 27 /\ k.imm = 0)) (he : qAN { m with st := m.st + 1 } k.op k.n k.m k.imm a = 0) (hr : Res k.op) :
  Goes m /\ qx m = { qX { m with st := m.st + 1 } k.op k.n k.m k.imm a with pc := a + 2 } := by
 have hs' : SI m.base m.by' m.pc k := by rw [h.base, h.by', h.pc]; exact hs
 obtain ⟨f0, f1, f2, f3, f4⟩ := qDT hs'
 have hpc := h.pc
 refine ⟨⟨?_, ?_, fun _ => by rw [f1]; exact hr, fun h => by rw [f1, hl] at h; cases h⟩, ?_⟩
 ·unfold qAE
  rw [f0, f1, f2, f3, f4, if_neg (by simp), if_neg hn, if_pos hl, hpc]
  exact he
 ·unfold qAm
  rw [f0, f1, f4]
  simpa using hn
 ·unfold qx
  rw [f1, f2, f3, f4, if_neg hn, if_pos hl, hpc]
theorem low_e {m : Ma} {op n mm imm a : Int} (h : op < 23 \/ op = 27) : qAN m op n mm imm a = 0 := by
 unfold qAN
 rw [if_neg (by omega)]
theorem ag_mov (n : Nat) (c : Int) (h : Ag m base im a r tt told pr) (hs : SI base im a ⟨3, n, 0, c⟩) : Goes m /\ Ag (qx m) base im (a + 2) (setF r n c) tt told pr := by
 obtain ⟨g, e⟩ := qFz h hs rfl (by rintro ⟨h, _⟩; simp at h) (low_e (.inl (by show (3 : Int) < 23; decide))) (.inl (show (3 : Int) <= 10 by decide))
 refine ⟨g, ?_⟩
 rw [e]
 refine ⟨h.base, h.by', rfl, ?_, h.t, h.told, h.pr⟩
 rw [<- h.r]
 rfl
theorem ag_tell (h : Ag m base im a r tt told pr) (hs : SI base im a ⟨27, 0, 0, 1⟩) : Goes m /\ Ag (qx m) base im (a + 2) r tt (told ++ [r 0]) pr := by
 obtain ⟨g, e⟩ := qFz h hs rfl (by rintro ⟨_, h⟩; simp at h) (low_e (.inr rfl)) (.inr (.inr (.inr (.inr rfl))))
 refine ⟨g, ?_⟩
 rw [e]
 refine ⟨h.base, h.by', rfl, h.r, h.t, ?_, h.pr⟩
 show m.told ++ [m.r 0] = _
 rw [h.told, h.r]
theorem ag_end (h : Ag m base im a r tt told pr) (hs : SI base im a ⟨27, 0, 0, 0⟩) : qAE m = 0 /\ qAm m = true /\ (qx m).told = told /\ ResM m := by
 have hs' : SI m.base m.by' m.pc ⟨27, 0, 0, 0⟩ := by rw [h.base, h.by', h.pc]; exact hs
 obtain ⟨f0, f1, f2, f3, f4⟩ := qDT hs'
 simp only at f1 f2 f3 f4
 refine ⟨?_, ?_, ?_, fun _ => by rw [f1]; exact .inr (.inr (.inr (.inr rfl))), fun h => by rw [f1] at h; exact absurd h (by decide)⟩
 ·unfold qAE
  rw [f0, f1, f4, if_neg (by simp), if_pos ⟨rfl, rfl⟩]
 ·unfold qAm
  rw [f0, f1, f4]
  rfl
 ·unfold qx
  rw [f1, f4, if_pos ⟨rfl, rfl⟩]
  exact h.told
theorem got_four (A B : List UInt8) (x : Int) : qBF (bsOf (A ++ (be4 x ++ B))) (A ++ (be4 x ++ B)).length (A.length : Int) 4 = x % 4294967296 := by
 have hx : ∀ j : Nat, j < 4 -> qB4 (bsOf (A ++ (be4 x ++ B))) (A ++ (be4 x ++ B)).length ((A.length : Int) + j) = (((be4 x).getD j 0).toNat : Int) := by
  intro j hj
  unfold qB4
  rw [if_pos ⟨by omega, by simp only [List.length_append, be4, List.length_cons, List.length_nil]; omega⟩]
  have : ((A.length : Int) + j).toNat = A.length + j := by omega
  rw [this]
  unfold bsOf
  rw [List.getD_eq_getElem?_getD, List.getD_eq_getElem?_getD, List.getElem?_append_right (by omega), List.getElem?_append_left (by simp [be4]; omega)]
  rw [show A.length + j - A.length = j by omega]
 have y0 := hx 0 (by omega)
 have y1 := hx 1 (by omega)
 have y2 := hx 2 (by omega)
 have y3 := hx 3 (by omega)
 simp only [be4, List.getD_cons_zero, List.getD_cons_succ, qBI] at y0 y1 y2 y3
 simp only [qBF]
 rw [show be4 x = [lowB (x / 16777216), lowB (x / 65536), lowB (x / 256), lowB x] from rfl, y0, y1, y2, y3]
 omega
theorem qLy {m : Ma} {A B : List UInt8} {x p : Int} (hc : m.by' = A ++ (be4 x ++ B)) (hp : p = m.base + A.length) (h4 : p % 4 = 0) : hasB m p 4 = true /\ qC8 m p 4 = wrap32 x := by
 refine ⟨?_, ?_⟩
 ·unfold hasB
  rw [hc]
  simp only [Bool.and_eq_true, decide_eq_true_eq, List.length_append, be4, List.length_cons, List.length_nil]
  refine ⟨?_, ?_, ?_⟩ <;> omega
 ·unfold qC8
  rw [if_neg (by decide), hc, show p - m.base = (A.length : Int) by omega, got_four]
  unfold wrap32
  omega
theorem qKD (n : Nat) (d p x v : Int) (A B : List UInt8) (h : Ag m base im a r tt told pr) (hs : SI base im a ⟨24, n, 0, d⟩) (hp : p = a - a % 4 + 4 + 4 * d) (hc : im = A ++ (be4 x ++ B)) (hA : p = base + A.length) (h4 : p % 4 = 0) (hv : wrap32 x = v) : Goes m /\ Ag (qx m) base im (a + 2) (setF r n v) tt told pr := by
 have hmem : qEe { m with st := m.st + 1 } 24 n 0 d a = p := by
  unfold qEe
  rw [if_neg (by decide), if_neg (by decide)]
  unfold toI
  rw [if_neg (by decide), if_pos (show qL 24 = 8 from rfl)]
  omega
 obtain ⟨l1, l2⟩ := qLy (m := { m with st := m.st + 1 }) (A := A) (B := B) (x := x) (p := p) (by show m.by' = _; rw [h.by']; exact hc) (by show p = m.base + _; rw [h.base]; exact hA) h4
 obtain ⟨g, e⟩ := qFz h hs rfl (by rintro ⟨h, _⟩; simp at h) (by
  unfold qAN
  rw [if_neg]
  rintro ⟨_, _, h3⟩
  rw [hmem, show qEP 24 = 4 from rfl, l1] at h3
  cases h3) (.inr (.inr (.inl rfl)))
 refine ⟨g, ?_⟩
 have hpl : qX { m with st := m.st + 1 } 24 n 0 d a = setR { m with st := m.st + 1 } n (wrap32 x) := by
  unfold qX
  rw [hmem, show qEP 24 = 4 from rfl, l1, l2]
  rfl
 rw [e, hpl]
 refine ⟨h.base, h.by', rfl, ?_, h.t, h.told, h.pr⟩
 rw [<- hv, <- h.r]
 rfl
end
theorem si_of {l : List I4} {rest : List UInt8} {i : Nat} {k : I4} {base a : Int} (hk : l[i]? = some k) (hok : k.ok) (hb : base % 2 = 0) (ha : a = base + 2 * i) : SI base (qI l ++ rest) a k := by
 obtain ⟨hi, he⟩ := at_of hk
 refine ⟨hok, qI (l.take i), qI (l.drop (i + 1)) ++ rest, ?_, ?_, by omega⟩
 ·rw [qGF l i hi, he]
  simp [List.append_assoc]
 ·rw [qA8, List.length_take]
  omega
section
variable {m : Ma} {base : Int} {im : List UInt8} {a : Int} {r : Nat -> Int} {tt : Bool} {told : List Int} {pr : Int}
theorem pre_keep (m : Ma) : (preM m).base = m.base /\ (preM m).by' = m.by' /\ (preM m).r = m.r /\ (preM m).t = m.t /\ (preM m).told = m.told := by
 unfold preM
 split <;> exact ⟨rfl, rfl, rfl, rfl, rfl⟩
theorem qHV {k k2 : I4} (h : Ag m base im a r tt told pr) (hs : SI base im a k) (hs2 : SI base im (a + 2) k2) (hl : qAX k.op = true) (hb : ¬ (k.op = 17 \/ k.op = 18)) (hl2 : qAX k2.op = false) (h27 : k2.op ≠ 27) (hk : k2.op < 23) (hr : Res k2.op) :
  Goes m /\ qx m = { qX (preM m) k2.op k2.n k2.m k2.imm (a + 2) with pc := qEB m } /\ fV m m.pc 0 = k.op /\ fV m m.pc 1 = k.n := by
 obtain ⟨p1, p2, _, _, _⟩ := pre_keep m
 have hs' : SI m.base m.by' m.pc k := by rw [h.base, h.by', h.pc]; exact hs
 obtain ⟨f0, f1, f2, f3, f4⟩ := qDT hs'
 have hs2' : SI (preM m).base (preM m).by' (m.pc + 2) k2 := by rw [p1, p2, h.base, h.by', h.pc]; exact hs2
 obtain ⟨e0, e1, e2, e3, e4⟩ := qDT hs2'
 have hs3 : SI m.base m.by' (m.pc + 2) k2 := by rw [h.base, h.by', h.pc]; exact hs2
 have e1' := (qDT hs3).2.1
 have hnt : ¬ (k.op = 27 /\ k.imm = 0) := by
  rintro ⟨h1, _⟩
  rw [h1] at hl
  exact absurd hl (by decide)
 have hnl : ¬ qAX k.op = false := by rw [hl]; decide
 have hsl : ¬ (qAX k2.op = true \/ k2.op = 27) := by
  rintro (h1 | h1)
  ·rw [hl2] at h1; cases h1
  ·exact h27 h1
 refine ⟨⟨?_, ?_, fun h => absurd h (by rw [f1]; exact hnl), fun _ _ => by rw [e1']; exact hr⟩, ?_, f1, f2⟩
 ·unfold qAE
  rw [f0, f1, f4, e0, e1, e2, e3, e4, if_neg (by simp), if_neg hnt, if_neg hnl, if_neg hb, if_neg (by simp), if_neg hsl]
  exact low_e (.inl hk)
 ·unfold qAm
  rw [f0, f1, f4]
  simpa using hnt
 ·unfold qx
  rw [f1, f4, e1, e2, e3, e4, if_neg hnt, if_neg hnl, if_neg hb, h.pc]
theorem ag_jmp (n : Nat) (b : Int) (h : Ag m base im a r tt told pr) (hs : SI base im a ⟨21, n, 0, 0⟩) (hs2 : SI base im (a + 2) ⟨1, 0, 0, 0⟩) (hb : r n = b) : Goes m /\ Ag (qx m) base im b r tt told pr := by
 obtain ⟨g, e, f1, f2⟩ := qHV h hs hs2 rfl (by rintro (h | h) <;> simp at h) rfl (by simp) (by simp) (.inl (by simp))
 refine ⟨g, ?_⟩
 have hp : preM m = { m with st := m.st + 1 } := by unfold preM; rw [f1, if_neg (by rintro (h | h) <;> simp at h)]
 have hd : qEB m = b := by
  unfold qEB
  rw [f1, f2, if_neg (by simp), if_pos (.inl rfl), h.r, <- hb]
  rfl
 have hpl : qX (preM m) 1 0 0 0 (a + 2) = preM m := by unfold qX; rw [if_pos rfl]
 rw [e, hpl, hp, hd]
 exact ⟨h.base, h.by', rfl, h.r, h.t, h.told, h.pr⟩
theorem ag_jsr (n : Nat) (b : Int) (h : Ag m base im a r tt told pr) (hs : SI base im a ⟨22, n, 0, 0⟩) (hs2 : SI base im (a + 2) ⟨1, 0, 0, 0⟩) (hb : r n = b) : Goes m /\ Ag (qx m) base im b r tt told (a + 4) := by
 obtain ⟨g, e, f1, f2⟩ := qHV h hs hs2 rfl (by rintro (h | h) <;> simp at h) rfl (by simp) (by simp) (.inl (by simp))
 refine ⟨g, ?_⟩
 have hp : preM m = { m with st := m.st + 1, pr := m.pc + 4 } := by unfold preM; rw [f1, if_pos (.inr rfl)]
 have hd : qEB m = b := by
  unfold qEB
  rw [f1, f2, if_neg (by simp), if_pos (.inr rfl), h.r, <- hb]
  rfl
 have hpl : qX (preM m) 1 0 0 0 (a + 2) = preM m := by unfold qX; rw [if_pos rfl]
 rw [e, hpl, hp, hd]
 exact ⟨h.base, h.by', rfl, h.r, h.t, h.told, by rw [<- h.pc]⟩
theorem ag_rts (n : Nat) (c v : Int) (h : Ag m base im a r tt told pr) (hs : SI base im a ⟨2, 0, 0, 0⟩) (hs2 : SI base im (a + 2) ⟨4, n, 0, c⟩) (hv : wrap32 (wrap32 (r n) + c) = v) : Goes m /\ Ag (qx m) base im pr (setF r n v) tt told pr := by
 obtain ⟨g, e, f1, _⟩ := qHV h hs hs2 rfl (by rintro (h | h) <;> simp at h) rfl (by simp) (by simp) (.inl (by simp))
 refine ⟨g, ?_⟩
 have hp : preM m = { m with st := m.st + 1 } := by unfold preM; rw [f1, if_neg (by rintro (h | h) <;> simp at h)]
 have hd : qEB m = pr := by
  unfold qEB
  rw [f1, if_pos rfl, h.pr]
 rw [e, hp, hd]
 refine ⟨h.base, h.by', rfl, ?_, h.t, h.told, h.pr⟩
 rw [<- hv, <- h.r]
 rfl
end
theorem qKP {P : List UInt8} {l : List I4} {Q : List UInt8} {i : Nat} {k : I4} {base a : Int} (hk : l[i]? = some k) (hok : k.ok) (hb : (base + P.length) % 2 = 0) (ha : a = base + P.length + 2 * i) : SI base (P ++ (qI l ++ Q)) a k := by
 obtain ⟨_, A, B, e, h2, h3⟩ := si_of (rest := Q) (base := base + P.length) (a := a) hk hok hb ha
 refine ⟨hok, P ++ A, B, ?_, ?_, h3⟩
 ·rw [e, List.append_assoc]
 ·rw [List.length_append]; omega
theorem qLV (r d : Int) (hr : r = 0 \/ r = 1) (h0 : -128 <= d) (h1 : d <= 127) : (⟨4, r, 0, d⟩ : I4).ok := by
 show qW 4 r 0 d = 0
 have a : qAC (qF 4) = -128 := rfl
 have b : qZ (qF 4) = 127 := rfl
 unfold qW
 rcases hr with rfl | rfl
 ·rw [if_pos (by decide), a, b, if_pos ⟨by decide, by decide, by simp [qR]; omega⟩]
 ·rw [if_pos (by decide), a, b, if_pos ⟨by decide, by decide, by simp [qR]; omega⟩]
theorem okL2 : (⟨24, 1, 0, 2⟩ : I4).ok := by show qW 24 1 0 2 = 0; kernel_rfl
theorem okL1 : (⟨24, 1, 0, 1⟩ : I4).ok := by show qW 24 1 0 1 = 0; kernel_rfl
theorem okJs : (⟨22, 1, 0, 0⟩ : I4).ok := by show qW 22 1 0 0 = 0; kernel_rfl
theorem okJm : (⟨21, 1, 0, 0⟩ : I4).ok := by show qW 21 1 0 0 = 0; kernel_rfl
theorem okRt : (⟨2, 0, 0, 0⟩ : I4).ok := by show qW 2 0 0 0 = 0; kernel_rfl
def main4 (a : Int) : List I4 := [⟨3, 0, 0, a⟩, ⟨24, 1, 0, 2⟩, ⟨22, 1, 0, 0⟩, ⟨1, 0, 0, 0⟩, ⟨27, 0, 0, 1⟩, ⟨27, 0, 0, 0⟩]
def more4 (b : Int) : List I4 := [⟨2, 0, 0, 0⟩, ⟨4, 0, 0, b⟩]
def go4 : List I4 := [⟨24, 1, 0, 1⟩, ⟨21, 1, 0, 0⟩, ⟨1, 0, 0, 0⟩]
theorem qAz (a : Int) : (qI (main4 a)).length = 12 := by rw [qA8]; rfl
theorem qBO (b : Int) : (qI (more4 b)).length = 4 := by rw [qA8]; rfl
theorem qBf : (qI go4).length = 6 := by rw [qA8]; rfl
theorem qGs (base s q : Int) (im : List UInt8) (a b : Int) (ha0 : -100 <= a) (ha1 : a <= 100) (hb0 : -100 <= b) (hb1 : b <= 100) (hs4 : s % 4 = 0) (hq0 : 0 <= q) (hq1 : q <= 100000)
  (hm : ∀ i k, (main4 a)[i]? = some k -> k.ok -> SI base im (s + 2 * (i : Nat)) k) (hr : ∀ i k, (more4 b)[i]? = some k -> k.ok -> SI base im (q + 2 * (i : Nat)) k) (A B : List UInt8) (hc : im = A ++ (be4 q ++ B)) (hA : s + 12 = base + A.length)
  {m : Ma} {r : Nat -> Int} {tt : Bool} {pr : Int} (h : Ag m base im s r tt [] pr) :
  ∃ k, Walks 5 m k /\ qAE k = 0 /\ qAm k = true /\ (qx k).told = [a + b] /\ ResM k := by
 have w32 : ∀ z : Int, -1000000 <= z -> z <= 2000000000 -> wrap32 z = z := fun z z0 z1 => by unfold wrap32; omega
 obtain ⟨g1, a1⟩ := ag_mov 0 a h (by have := hm 0 _ rfl (qMN 0 a (.inl rfl) (by omega) (by omega)); simpa using this)
 obtain ⟨g2, a2⟩ := qKD 1 2 (s + 12) q q A B a1 (by have := hm 1 _ rfl okL2; simpa using this) (by omega) hc hA (by omega) (w32 _ (by omega) (by omega))
 have a2' : Ag (qx (qx m)) base im (s + 4) (setF (setF r 0 a) 1 q) tt [] pr := by rw [show s + 4 = s + 2 + 2 by omega]; exact a2
 obtain ⟨g3, a3⟩ := ag_jsr 1 q a2' (by have := hm 2 _ rfl okJs; simpa using this) (by have := hm 3 _ rfl ok1; rw [show s + 4 + 2 = s + 2 * ((3 : Nat) : Int) by omega]; exact this) rfl
 obtain ⟨g4, a4⟩ := ag_rts 0 b (a + b) a3 (by have := hr 0 _ rfl okRt; simpa using this) (by have := hr 1 _ rfl (qLV 0 b (.inl rfl) (by omega) (by omega)); simpa using this) (by show wrap32 (wrap32 a + b) = a + b; rw [w32 a (by omega) (by omega), w32 _ (by omega) (by omega)])
 have a4' : Ag (qx (qx (qx (qx m)))) base im (s + 8) (setF (setF (setF r 0 a) 1 q) 0 (a + b)) tt [] (s + 4 + 4) := by rw [show s + 8 = s + 4 + 4 by omega]; exact a4
 obtain ⟨g5, a5⟩ := ag_tell a4' (by have := hm 4 _ rfl ok27; rw [show s + 8 = s + 2 * ((4 : Nat) : Int) by omega]; exact this)
 obtain ⟨e1, e2, e3, e4⟩ := ag_end a5 (by have := hm 5 _ rfl ok27'; rw [show s + 8 + 2 = s + 2 * ((5 : Nat) : Int) by omega]; exact this)
 exact ⟨_, .step g1 (.step g2 (.step g3 (.step g4 (.step g5 (.here _))))), e1, e2, e3, e4⟩
theorem qIg {n : Nat} {m k : Ma} {tl : List Int} (hn : n < 2000) (hw : Walks n m k) (e1 : qAE k = 0) (e2 : qAm k = true) (e3 : (qx k).told = tl) (e4 : ResM k) : runE 2000 m = 0 /\ (runM 2000 m).told = tl /\ ∀ M, Rch m M -> ResM M := by
 obtain ⟨q, hq⟩ : ∃ q, 2000 = n + (q + 1) := ⟨2000 - n - 1, by omega⟩
 have hrun := hw.run (n := q + 1)
 rw [hq, hrun.1, hrun.2]
 refine ⟨?_, ?_, hw.res e2 e4⟩
 ·simp only [runE]
  rw [if_neg (by rw [e1]; simp), if_pos e2]
 ·simp only [runM]
  rw [if_neg (by rw [e1]; simp), if_pos e2, e3]
def qDv (base a b : Int) : List UInt8 := qI (main4 a) ++ (be4 (base + 16) ++ qI (more4 b))
theorem call_run (base a b : Int) (ha0 : -100 <= a) (ha1 : a <= 100) (hb0 : -100 <= b) (hb1 : b <= 100) (h0 : 0 <= base) (h1 : base <= 4000) (h4 : base % 4 = 0) : runE 2000 (newM base (qDv base a b)) = 0 /\ (runM 2000 (newM base (qDv base a b))).told = [a + b] /\ ∀ M, Rch (newM base (qDv base a b)) M -> ResM M := by
 obtain ⟨k, hw, e1, e2, e3, e4⟩ := qGs base base (base + 16) (qDv base a b) a b ha0 ha1 hb0 hb1 h4 (by omega) (by omega) (fun i k hk hok => si_of hk hok (by omega) rfl)
  (fun i k hk hok => by
   have := qKP (P := qI (main4 a) ++ be4 (base + 16)) (Q := []) (base := base) (a := base + 16 + 2 * (i : Nat)) hk hok (by rw [List.length_append, qAz]; simp [be4]; omega) (by rw [List.length_append, qAz]; simp [be4])
   rw [List.append_nil, List.append_assoc] at this
   exact this) (qI (main4 a)) (qI (more4 b)) rfl (by rw [qAz]; omega) (m := newM base (qDv base a b)) (r := fun _ => 0) (tt := false) (pr := -1) ⟨rfl, rfl, rfl, rfl, rfl, rfl, rfl⟩
 exact qIg (by omega) hw e1 e2 e3 e4
def qBV (base a b : Int) : List UInt8 := qI go4 ++ ([0, 0] ++ (be4 (base + 16) ++ (qI (more4 b) ++ (qI (main4 a) ++ be4 (base + 12)))))
theorem turn_run (base a b : Int) (ha0 : -100 <= a) (ha1 : a <= 100) (hb0 : -100 <= b) (hb1 : b <= 100) (h0 : 0 <= base) (h1 : base <= 4000) (h4 : base % 4 = 0) : runE 2000 (newM base (qBV base a b)) = 0 /\ (runM 2000 (newM base (qBV base a b))).told = [a + b] /\ ∀ M, Rch (newM base (qBV base a b)) M -> ResM M := by
 have hg : ∀ i k, go4[i]? = some k -> k.ok -> SI base (qBV base a b) (base + 2 * (i : Nat)) k := fun i k hk hok => si_of hk hok (by omega) rfl
 have h : Ag (newM base (qBV base a b)) base (qBV base a b) base (fun _ => 0) false [] (-1) := ⟨rfl, rfl, rfl, rfl, rfl, rfl, rfl⟩
 obtain ⟨g1, a1⟩ := qKD 1 1 (base + 8) (base + 16) (base + 16) (qI go4 ++ [0, 0]) (qI (more4 b) ++ (qI (main4 a) ++ be4 (base + 12))) h (by have := hg 0 _ rfl okL1; simpa using this) (by omega) (by unfold qBV; rw [List.append_assoc]) (by rw [List.length_append, qBf]; simp) (by omega) (by unfold wrap32; omega)
 obtain ⟨g2, a2⟩ := ag_jmp 1 (base + 16) a1 (by have := hg 1 _ rfl okJm; simpa using this) (by have := hg 2 _ rfl ok1; rw [show base + 2 + 2 = base + 2 * ((2 : Nat) : Int) by omega]; exact this) rfl
 obtain ⟨k, hw, e1, e2, e3, e4⟩ := qGs base (base + 16) (base + 12) (qBV base a b) a b ha0 ha1 hb0 hb1 (by omega) (by omega) (by omega)
  (fun i k hk hok => by
   have := qKP (P := qI go4 ++ ([0, 0] ++ (be4 (base + 16) ++ qI (more4 b)))) (Q := be4 (base + 12)) (base := base) (a := base + 16 + 2 * (i : Nat)) hk hok (by simp [qBf, qBO, be4]; omega) (by simp [qBf, qBO, be4])
   simpa [qBV, List.append_assoc] using this)
  (fun i k hk hok => by
   have := qKP (P := qI go4 ++ ([0, 0] ++ be4 (base + 16))) (Q := qI (main4 a) ++ be4 (base + 12)) (base := base) (a := base + 12 + 2 * (i : Nat)) hk hok (by simp [qBf, be4]; omega) (by simp [qBf, be4])
   simpa [qBV, List.append_assoc] using this)
  (qI go4 ++ ([0, 0] ++ (be4 (base + 16) ++ (qI (more4 b) ++ qI (main4 a))))) [] (by unfold qBV; simp [List.append_assoc]) (by simp [qBf, qBO, qAz, be4]; omega) a2
 exact qIg (by omega) (Walks.trans (.step g1 (.step g2 (.here _))) hw) e1 e2 e3 e4
end Go.Proofs.YtfmljailbebfgaaGreatDoor.Si
