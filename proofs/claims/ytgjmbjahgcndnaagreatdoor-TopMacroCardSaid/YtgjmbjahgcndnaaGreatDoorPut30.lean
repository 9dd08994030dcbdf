import Derived.Test.YtgjmbjahgcndnaaGreatDoorPut29
set_option maxHeartbeats 4000000
set_option maxRecDepth 100000
namespace Go.Proofs.YtgjmbjahgcndnaaGreatDoor
open Go.RowKit
def qAV (x : Tk) : Bool := x.k == 3 && x.t.toList == [44]
def qAO : List Tk -> List Tk -> List (List Tk)
 | cur, [] => [cur]
 | cur, x :: r => if qAV x = true then cur :: qAO [] r else qAO (cur ++ [x]) r
def qAu (ts : List Tk) : List (List Tk) := if ts = [] then [] else qAO [] ts
theorem infoTx : (Tryz.prog.info? 143).map (fun i => (i.zero, i.size, i.bytes)) = some (some (.slice none 0 0), 1, 24) := by kernel_rfl
theorem qI.piece {w : World} {b o cap : Nat} {ts : List Tk} (h : qI w (.slice (some ⟨b, o, none⟩) ts.length cap) ts) {i j : Nat} (hij : i <= j) (hj : j <= ts.length) (hi : i < ts.length) : qI w (.slice (some ⟨b, o + i * 4, none⟩) (j - i) (cap - i)) ((ts.take j).drop i) := by
 obtain ⟨ad, cap', e, hc, hm, h⟩ := h
 injection e with e1 _ e3
 subst e1 e3
 obtain ⟨b', o', e', hlt, hcell⟩ := h (by omega)
 injection e' with e'
 injection e' with e1 e2 _
 subst e1 e2
 have hl : ((ts.take j).drop i).length = j - i := by simp; omega
 refine ⟨some ⟨b, o + i * 4, none⟩, cap - i, by rw [hl], by rw [hl]; omega, by omega, fun _ => ⟨b, o + i * 4, rfl, hlt, fun k hk => ?_⟩⟩
 rw [hl] at hk
 have := hcell (i + k) (by omega)
 rw [show o + (i + k) * 4 = o + i * 4 + k * 4 by omega] at this
 simpa using this
theorem qFe (ad : Option Addr) (cap : Nat) (w : World) : Calls Tryz.prog 130 #[.slice ad 0 cap] w fun r w' => r = .returned (.slice none 0 0) /\ w' = w := by
 go_enter Tryz.func130, Tryz.ntmps130
 go_wp2
 go_ret
 exact ⟨rfl, rfl⟩
def TRow (w W : World) (base : Nat) (ov : Value) (vs : List Value) (ps : List (List Tk)) : Prop := W.ownsRow base 143 1 ov vs.length vs /\ vs.length = ps.length /\ ∀ i (h : i < vs.length) (h' : i < ps.length), qI w vs[i] ps[i]
theorem TRow.app {w w1 : World} {oa : Option Addr} {oc : Nat} {vs : List Value} {done : List (List Tk)} (hr : TRow w w1 w.heap.size (.slice oa vs.length oc) vs done) (hb : Below w.heap.size w w1) (hl : vs.length <= 100000) (pa : Option Addr) (pn pc : Nat) (piece : List Tk) (hp : qI w (.slice pa pn pc) piece) :
  ∃ la lc w2, (∀ ty, (Builtin.append_ #[232, 232] ty #[.slice oa vs.length oc, .slice (some ⟨w1.heap.size, 0, none⟩) 1 1]).run Tryz.prog (w1.alloc (.cells #[.slice pa pn pc] 143)) = .ok (.slice la (vs.length + 1) lc) w2) /\
   TRow w w2 w.heap.size (.slice la (vs.length + 1) lc) (vs ++ [.slice pa pn pc]) (done ++ [piece]) /\ Below w.heap.size w w2 := by
 have hrow := hr.1.alloc (.cells #[.slice pa pn pc] 143)
 obtain ⟨v', w2, happ, hr', hgr⟩ := app1 232 143 _ 1 24 Tryz.underlying232 infoTx rfl (by decide) (by decide) hrow (by have := hb.size; go_size) [.slice pa pn pc] rfl w1.heap.size (qH _ _ rfl) (by intro u hu; simp at hu; subst hu; rfl) (by omega)
 obtain ⟨la, lc, rfl⟩ := qG hr'
 refine ⟨la, lc, w2, happ, ⟨by simpa using hr', by simp [hr.2.1], fun k h1 h2 => ?_⟩, ?_⟩
 ·by_cases hk : k < vs.length
  ·have hk2 : k < done.length := by rw [<- hr.2.1]; exact hk
   rw [List.getElem_append_left hk, List.getElem_append_left hk2]
   exact hr.2.2 k hk hk2
  ·have e : k = vs.length := by simp at h1; omega
   subst e
   have e2 : done.length = vs.length := hr.2.1.symm
   simp only [List.getElem_append_right (Nat.le_refl _), List.getElem_append_right (Nat.le_of_eq e2), Nat.sub_self, List.getElem_cons_zero, e2]
   exact hp
 ·exact (hb.alloc hb.size _).grown hgr (by have := hb.size; go_size) (fun k hk => (hrow.lt k hk).1)
theorem qI.none (w : World) (ad : Option Addr) (c : Nat) (h : c <= maxLen) : qI w (.slice ad 0 c) [] := ⟨ad, c, rfl, Nat.zero_le _, h, fun h => by simp at h⟩
theorem qFi {cur r : List Tk} {x : Tk} {done : List (List Tk)} {X : List (List Tk)} (h : X = done ++ qAO cur (x :: r)) (hx : qAV x = true) : X = (done ++ [cur]) ++ qAO [] r := by
 rw [h, qAO, if_pos hx]; simp
theorem qFW {cur r : List Tk} {x : Tk} {done : List (List Tk)} {X : List (List Tk)} (h : X = done ++ qAO cur (x :: r)) (hx : qAV x = false) : X = done ++ qAO (cur ++ [x]) r := by
 rw [h, qAO, if_neg (by simp [hx])]
theorem qJb (b o cap : Nat) (ts : List Tk) (w : World) (h : qI w (.slice (some ⟨b, o, none⟩) ts.length cap) ts) (h0 : 0 < ts.length) (hn : ts.length <= 100000) :
  Calls Tryz.prog 130 #[.slice (some ⟨b, o, none⟩) ts.length cap] w fun r w' => (∃ ov vs, r = .returned ov /\ TRow w w' w.heap.size ov vs (qAO [] ts)) /\ Below w.heap.size w w' := by
 have HT := Lib.hid h
 obtain ⟨ad, cap', e, hc, hmx, hcl⟩ := h
 injection e with e1 _ e3
 subst e1 e3
 obtain ⟨b', o', e', hlt, hcell⟩ := hcl h0
 injection e' with e'
 injection e' with e1 e2 _
 subst e1 e2
 have HC := Lib.hid hcell
 clear hcl hcell
 have hne : ((ts.length : Int) == 0) = false := beq_eq_false_iff_ne.2 (by omega)
 unfold maxLen at hmx
 go_enter Tryz.func130, Tryz.ntmps130
 go_wp2_with fail
 go_loopw [3, 4, 12] (fun ov fv iv wr => ∃ (i f : Nat) (vs : List Value) (done : List (List Tk)), f <= i /\ i <= ts.length /\ iv = .int .i64 i /\ fv = .int .i64 f /\ Hid (TRow w wr w.heap.size ov vs done) /\ Hid (Below w.heap.size w wr) /\ vs.length <= i /\ Hid (qAO [] ts = done ++ qAO ((ts.take i).drop f) (ts.drop i))) (fun _ _ iv _ => ts.length - (intOf iv).toNat)
 case atStart => exact ⟨0, 0, [], [], Nat.le_refl _, Nat.zero_le _, rfl, rfl, ⟨World.ownsRow_nil _ _ _ _, rfl, fun i h => by simp at h⟩, Below.refl _ _, Nat.le_refl _, by simp [Hid]⟩
 case round =>
  obtain ⟨i, f, vs, done, hf, hi, rfl, rfl, HR, HB, hvl, HS⟩ := hrel
  by_cases hlt2 : i < ts.length
  ·have hi' : (i : Int) < ts.length := by omega
   obtain ⟨k0, k1, k2, k3⟩ := HC.out i hlt2
   have hz := HB.out.size
   replace k0 := (HB.out.cell (by show b < w.heap.size; exact hlt)).trans k0
   replace k1 := (HB.out.cell (by show b < w.heap.size; exact hlt)).trans k1
   replace k2 := (HB.out.cell (by show b < w.heap.size; exact hlt)).trans k2
   replace k3 := (HB.out.cell (by show b < w.heap.size; exact hlt)).trans k3
   have hb2 : b < wr.heap.size := by omega
   obtain ⟨x, hx⟩ : ∃ x, ts[i]'hlt2 = x := ⟨_, rfl⟩
   have HD : Hid (ts.drop i = x :: ts.drop (i + 1)) := by rw [<- hx]; exact List.drop_eq_getElem_cons hlt2
   have HTK : Hid ((ts.take (i + 1)).drop f = (ts.take i).drop f ++ [x]) := by
    unfold Hid
    rw [List.take_succ_eq_append_getElem hlt2, hx, List.drop_append_of_le_length (by simp; omega)]
   have HPC : Hid (qI w (.slice (some ⟨b, o + f * 4, none⟩) (i - f) (cap - f)) ((ts.take i).drop f)) := HT.out.piece hf hi (by omega)
   rw [hx] at k0 k1 k2
   clear hx
   obtain ⟨xk, xn, xt⟩ := x
   simp only at k0 k1 k2
   have HCM := Lib.hid fun W => qCG xk xn xt W
   have HIC : Hid (qAV ⟨xk, xn, xt⟩ = (xk == 3 && xt.toList == [44])) := rfl
   unfold tokV at HCM
   obtain ⟨oa, oc, hov⟩ := qG HR.out.1
   subst hov
   cases hcm : (xk == 3 && xt.toList == [44])
   ·rw [hcm] at HCM HIC
    have HS2 : Hid (qAO [] ts = done ++ qAO ((ts.take (i + 1)).drop f) (ts.drop (i + 1))) := by
     unfold Hid
     rw [HTK.out]
     exact qFW (by rw [<- HD.out]; exact HS.out) HIC.out
    go_wp2_with (go_at_call 152; refine (HCM.out _).mono ?_; rintro e w1 ⟨rfl, hb1⟩; have HB1 : Hid (Below w.heap.size w w1) := Below.trans (by have hb := HB.out; go_grown) (hb1.mono (by go_size)); have HR1 : Hid (TRow w w1 w.heap.size (.slice oa vs.length oc) vs done) := ⟨Sc.qd (HR.out.1.alloc _) hb1 (Nat.le_refl _), HR.out.2⟩; clear hb1)
    exact ⟨⟨i + 1, f, vs, done, by omega, by omega, by go_num, rfl, HR1, HB1, by omega, HS2⟩, by simp [intOf]; omega⟩
   ·rw [hcm] at HCM HIC
    have HS2 : Hid (qAO [] ts = (done ++ [(ts.take i).drop f]) ++ qAO ((ts.take (i + 1)).drop (i + 1)) (ts.drop (i + 1))) := by
     unfold Hid
     have e : (ts.take (i + 1)).drop (i + 1) = [] := List.drop_eq_nil_of_le (by simp; omega)
     rw [e]
     exact qFi (by rw [<- HD.out]; exact HS.out) HIC.out
    have hfi : (f : Int) <= i := by omega
    have hic : (i : Int) <= cap := by omega
    have hcf : ¬ cap - f = 0 := by omega
    go_wp2_with (first
     | (go_at_call 152; refine (HCM.out _).mono ?_; rintro e w1 ⟨rfl, hb1⟩; have HB1 : Hid (Below w.heap.size w w1) := Below.trans (by have hb := HB.out; go_grown) (hb1.mono (by go_size)); have HR1 : Hid (TRow w w1 w.heap.size (.slice oa vs.length oc) vs done) := ⟨Sc.qd (HR.out.1.alloc _) hb1 (Nat.le_refl _), HR.out.2⟩; obtain ⟨la, lc, w2, happ, hr2, hb2⟩ := HR1.out.app HB1.out (by omega) _ _ _ _ HPC.out; have HA := Lib.hid happ; have HR2 := Lib.hid hr2; have HB2 := Lib.hid hb2; clear hb1 happ hr2 hb2)
     | (at_builtin; refine qQ rfl _ _ _ _ rfl _ _ rfl rfl HA.out ?_))
    exact ⟨⟨i + 1, i + 1, _, _, Nat.le_refl _, by omega, by go_num, by go_num, HR2, HB2, by simp; omega, HS2⟩, by simp [intOf]; omega⟩
  ·obtain rfl : i = ts.length := by omega
   have hi' : ¬ ((ts.length : Nat) : Int) < ts.length := by omega
   obtain ⟨oa, oc, hov⟩ := qG HR.out.1
   subst hov
   have hfi : (f : Int) <= ts.length := by omega
   have hic : (ts.length : Int) <= cap := by omega
   have HE : Hid (qAO [] ts = done ++ [(ts.take ts.length).drop f]) := by
    have := HS.out
    rw [List.drop_length] at this
    exact this
   have hmx' : cap <= maxLen := by unfold maxLen; omega
   by_cases hcf : cap - f = 0
   ·have e1 : f = ts.length := by omega
    have e2 : ts.length - f = 0 := by omega
    have HP : Hid (qI w (.slice (some ⟨b, o, none⟩) (ts.length - f) 0) ((ts.take ts.length).drop f)) := by
     unfold Hid
     rw [List.take_length, e1, List.drop_length, Nat.sub_self]
     exact qI.none w _ _ (Nat.zero_le _)
    obtain ⟨la, lc, w2, happ, hr2, hb2⟩ := HR.out.app HB.out (by omega) _ _ _ _ HP.out
    have HA := Lib.hid happ
    have HR2 := Lib.hid hr2
    have HB2 := Lib.hid hb2
    clear happ hr2 hb2 e1 e2
    go_wp2_with (at_builtin; refine qQ rfl _ _ _ _ rfl _ _ rfl rfl HA.out ?_)
    go_ret
    refine ⟨?_, HB2.out⟩
    rw [HE.out]
    exact ⟨_, rfl, _, HR2.out⟩
   ·have HP : Hid (qI w (.slice (some ⟨b, o + f * 4, none⟩) (ts.length - f) (cap - f)) ((ts.take ts.length).drop f)) := by
     by_cases hfl : f < ts.length
     ·exact HT.out.piece hf (Nat.le_refl _) hfl
     ·have e1 : f = ts.length := by omega
      unfold Hid
      rw [List.take_length, e1, List.drop_length, Nat.sub_self]
      exact qI.none w _ _ (by omega)
    obtain ⟨la, lc, w2, happ, hr2, hb2⟩ := HR.out.app HB.out (by omega) _ _ _ _ HP.out
    have HA := Lib.hid happ
    have HR2 := Lib.hid hr2
    have HB2 := Lib.hid hb2
    clear happ hr2 hb2
    go_wp2_with (at_builtin; refine qQ rfl _ _ _ _ rfl _ _ rfl rfl HA.out ?_)
    go_ret
    refine ⟨?_, HB2.out⟩
    rw [HE.out]
    exact ⟨_, rfl, _, HR2.out⟩
theorem qC9 (v : Value) (ts : List Tk) (w : World) (h : qI w v ts) (hn : ts.length <= 100000) :
  Calls Tryz.prog 130 #[v] w fun r w' => (∃ ov vs, r = .returned ov /\ TRow w w' w.heap.size ov vs (qAu ts)) /\ Below w.heap.size w w' := by
 obtain ⟨ad, cap, rfl, hc, hm, hcl⟩ := id h
 cases ts with
 | nil =>
   refine (qFe ad cap w).mono ?_
   rintro e w' ⟨rfl, rfl⟩
   exact ⟨⟨_, [], rfl, World.ownsRow_nil _ _ _ _, rfl, fun i h => by simp at h⟩, Below.refl _ _⟩
 | cons x r =>
   obtain ⟨b, o, rfl, hlt, _⟩ := hcl (by simp)
   refine (qJb b o cap (x :: r) w h (by simp) hn).mono ?_
   rintro e w' ⟨h1, h2⟩
   exact ⟨by simpa [qAu] using h1, h2⟩
structure Ck where
 c : Nat
 lk : Nat
 out : List (Value × Int)
def posC (cs : List Ck) : Nat := (cs.map (·.c)).sum
def qAp (cs : List Ck) : Nat := (cs.map (·.lk)).sum
theorem qLC (cs : List Ck) (x : Ck) : posC (cs ++ [x]) = posC cs + x.c := by simp [posC]
theorem qI3 (cs : List Ck) (x : Ck) : qAp (cs ++ [x]) = qAp cs + x.lk := by simp [qAp]
theorem posC_app (a b : List Ck) : posC (a ++ b) = posC a + posC b := by simp [posC]
theorem qLE (a b : List Ck) : qAp (a ++ b) = qAp a + qAp b := by simp [qAp]
theorem qFt (cs : List Ck) (j : Nat) : posC (cs.take j) <= posC cs := by
 have := posC_app (cs.take j) (cs.drop j)
 rw [List.take_append_drop] at this
 omega
theorem qFX (cs : List Ck) {j : Nat} (h : j < cs.length) : posC (cs.take (j + 1)) = posC (cs.take j) + cs[j].c := by
 rw [List.take_succ_eq_append_getElem h, qLC]
theorem qEl (cs : List Ck) {j : Nat} (h : j < cs.length) : qAp (cs.take (j + 1)) = qAp (cs.take j) + cs[j].lk := by
 rw [List.take_succ_eq_append_getElem h, qI3]
theorem qEq (cs : List Ck) (j : Nat) : qAp (cs.take j) <= qAp cs := by
 have := qLE (cs.take j) (cs.drop j)
 rw [List.take_append_drop] at this
 omega
def KT (w w' : World) : Prop := ∀ (i : Nat) (c : Array Value) (t : TypeId) (f : Nat × Nat), w.heap[i]? = some (.cells c t f) -> t ≠ 145 -> t ≠ 134 -> w'.heap[i]? = some (.cells c t f)
theorem KT.trans {a b c : World} (h : KT a b) (k : KT b c) : KT a c := fun i x t f hi h1 h2 => k i x t f (h i x t f hi h1 h2) h1 h2
theorem KT.below {w w' : World} (h : Below w.heap.size w w') : KT w w' := fun i c t f hi _ _ => by rw [h.block i (qC hi)]; exact hi
theorem KT.set {w : World} {gw i : Nat} {v : Value} {c : Array Value} {f : Nat × Nat} (h : w.heap[gw]? = some (.cells c 134 f)) : KT w (w.setCell ⟨gw, i, none⟩ v) := fun j x t g hj h1 h2 => by
 rw [Below.heap_setCell _ _ _ _ (by show j ≠ gw; rintro rfl; rw [h] at hj; injection hj with hj; injection hj with _ e; exact h2 e.symm)]
 exact hj
def KS (w w' : World) : Prop := KT w w' /\ w.heap.size <= w'.heap.size
theorem KS.trans {a b c : World} (h : KS a b) (k : KS b c) : KS a c := ⟨h.1.trans k.1, Nat.le_trans h.2 k.2⟩
theorem KS.below {w w' : World} (h : Below w.heap.size w w') : KS w w' := ⟨KT.below h, h.size⟩
theorem do_gs (gw mb : Nat) (k : Int) (b o cap : Nat) (cs : List Ck) (d : Int) (w : World) (S T : Nat -> World -> Prop) (h : S 0 w) (hd0 : 0 <= d) (hd : d <= 6)
  (hk0 : 0 <= k) (hk : k + qAp cs <= 4000) (hcap : posC cs <= cap) (hmax : cap <= maxLen) (hc13 : ∀ x, x ∈ cs -> (x.c = 1 \/ x.c = 3) /\ 1 <= x.lk)
  (hbl : b < w.heap.size)
  (hbox : ∀ j W, S j W -> ∃ lv qv, W.heap[gw]? = some (.cells #[lv, qv, .map (some mb), .int .i64 (k + qAp (cs.take j))] 134 (0, 0)))
  (hlook : ∀ j W, S j W -> T j (W.setCell ⟨gw, 3, none⟩ (.int .i64 (k + qAp (cs.take j) + 1))))
  (hgo : ∀ j W W', S j W -> Below W.heap.size W W' -> S j W')
  (hS : ∀ j (hj : j < cs.length) W, T j W -> b < W.heap.size -> Calls Tryz.prog 88 #[.pointer (some ⟨gw, 0, none⟩), .slice (some ⟨b, o + posC (cs.take j) * 2, none⟩) (posC cs - posC (cs.take j)) (cap - posC (cs.take j)), .int .i64 d] W fun r w' => r = .returned (.tuple #[.int .i64 (cs[j].c : Int), .agg #[.int .i64 0, .int .i64 0]]) /\ S (j + 1) w' /\ KS W w') :
  Calls Tryz.prog 68 #[.pointer (some ⟨gw, 0, none⟩), .slice (some ⟨b, o, none⟩) (posC cs) cap, .int .i64 d] w fun r w' => r = .returned (.agg #[.int .i64 0, .int .i64 0]) /\ S cs.length w' /\ KS w w' := by
 have HS := Lib.hid hS
 have HC := Lib.hid hc13
 have HBX := Lib.hid hbox
 have HLK := Lib.hid hlook
 have HGO := Lib.hid hgo
 obtain ⟨lv0, qv0, hb0⟩ := hbox 0 w h
 have hg := qC hb0
 have HI : Hid (S 0 (w.alloc (.cells #[.int .i64 0, .int .i64 0] 36))) := hgo 0 _ _ h (qE w _)
 clear hS hc13 hbox hlook hgo hb0 h
 have hd' : ¬ (6 : Int) < d := by omega
 have HR : Hid ((w.alloc (.cells #[.int .i64 0, .int .i64 0] 36)).heap[w.heap.size]? = some (.cells #[.int .i64 0, .int .i64 0] 36 (0, 0))) := qH _ _ rfl
 go_enter Tryz.func68, Tryz.ntmps68
 go_wp2_with fail
 go_loopw [1] (fun v wr => ∃ (j : Nat) (ad : Option Addr), j <= cs.length /\ v = .slice ad (posC cs - posC (cs.take j)) (cap - posC (cs.take j)) /\ Hid (j < cs.length -> ad = some ⟨b, o + posC (cs.take j) * 2, none⟩) /\ Hid (S j wr) /\ Hid (KS w wr) /\ Hid (wr.heap[w.heap.size]? = some (.cells #[.int .i64 0, .int .i64 0] 36 (0, 0)))) (fun v _ => lenV v)
 case atStart => exact ⟨0, _, Nat.zero_le _, rfl, fun _ => by simp [posC], HI, KS.below (qE _ _), HR⟩
 case round =>
  obtain ⟨j, ad, hj, rfl, HA, HW, HK, HX⟩ := hrel
  clear HI HR
  by_cases hlt : j < cs.length
  ·obtain ⟨lv1, qv1, hw1⟩ := HBX.out j wr HW.out
   have hps := qFX cs hlt
   have hpt := qFt cs (j + 1)
   have hls := qEl cs hlt
   have hlk := qEq cs (j + 1)
   obtain ⟨hcj, hl1⟩ := HC.out cs[j] (List.getElem_mem _)
   have HSJ := Lib.hid (HS.out j hlt)
   have HLJ := Lib.hid (HLK.out j wr HW.out)
   clear HS HLK
   obtain ⟨c, hcc⟩ : ∃ c, cs[j].c = c := ⟨_, rfl⟩
   rw [hcc] at HSJ hcj hps
   have c3 : wr.cell? ⟨gw, 3, none⟩ = some (.int .i64 (k + qAp (cs.take j))) := qB hw1 rfl
   have f3 : wr.frozen? ⟨gw, 3, none⟩ = false := qD hw1
   have hg1 := qC hw1
   have e2 := HA.out hlt
   subst e2
   generalize hQ : posC (cs.take j) = q at *
   generalize hK : qAp (cs.take j) = z at *
   have hn : posC cs - q = (posC cs - q - c) + c := by omega
   have hkk2 : k + (z : Int) + 1 <= 4000 := by omega
   have hkk : ¬ (4000 : Int) < k + z + 1 := by omega
   have hK2 : KS w (wr.setCell ⟨gw, 3, none⟩ (.int .i64 (k + z + 1))) := HK.out.trans ⟨KT.set hw1, by simp⟩
   have hbw : b < wr.heap.size := Nat.lt_of_lt_of_le hbl HK.out.2
   have HSJ2 := Lib.hid (HSJ.out _ HLJ.out (by simpa using hbw))
   have HX2 : Hid ((wr.setCell ⟨gw, 3, none⟩ (.int .i64 (k + z + 1))).heap[w.heap.size]? = some (.cells #[.int .i64 0, .int .i64 0] 36 (0, 0))) := by
    unfold Hid
    rw [Below.heap_setCell _ _ _ _ (by show w.heap.size ≠ gw; omega)]
    exact HX.out
   have HK3 := Lib.hid hK2
   clear hw1 hK2 HW HX HSJ HK HLJ
   obtain ⟨N, hN⟩ : ∃ N, posC cs - q = N := ⟨_, rfl⟩
   obtain ⟨M, hM⟩ : ∃ M, cap - q = M := ⟨_, rfl⟩
   rw [hN, hM] at HSJ2
   rw [hN, hM]
   have hNM : N <= M := by omega
   have hMx : M <= maxLen := by omega
   have hcN : c <= N := by omega
   have hN0 : N ≠ 0 := by omega
   have HP : Hid (posC (cs.take (j + 1)) = q + c) := hps
   obtain ⟨n, rfl⟩ : ∃ n, N = n + c := ⟨N - c, by omega⟩
   obtain ⟨m, rfl⟩ : ∃ m, M = m + c := ⟨M - c, by omega⟩
   have hnm : n <= m := by omega
   have hN2 : posC cs - (q + c) = n := by omega
   have hM2 : cap - (q + c) = m := by omega
   have hlast : m = 0 -> ¬ (j + 1 < cs.length) := fun hm hj2 => by
    have h1 := qFX cs hj2
    have h2 := qFt cs (j + 1 + 1)
    have h3 := (HC.out cs[j + 1] (List.getElem_mem _)).1
    omega
   have HLA := Lib.hid hlast
   clear hps hpt hlk hls hn hlast HC hN hM hcc hl1 hcN HBX
   rcases hcj with rfl | rfl
   all_goals
    have hmx2 := hMx
    unfold maxLen at hmx2
    go_wp2_with (go_at_call 88; refine HSJ2.out.mono ?_; rintro e w2 ⟨rfl, hw2, hk2⟩; have HW2 := Lib.hid hw2; have HK2 := Lib.hid hk2; have HX3 := Lib.hid (hk2.1 _ _ _ _ HX2.out (by decide) (by decide)); clear hw2 hk2)
    refine ⟨⟨j + 1, _, by omega, by rw [HP.out, hN2, hM2], fun h => ?_, ?_, ?_, ?_⟩, by simp [lenV]; try omega⟩
    ·rw [if_neg (fun e => HLA.out e h), HP.out]
     congr 2
     try omega
    ·exact HGO.out _ _ _ HW2.out (qE _ _)
    ·exact (HK3.out.trans HK2.out).trans (KS.below (qE _ _))
    ·unfold Hid
     rw [old2 _ _ (qC HX3.out)]
     exact HX3.out
  ·obtain rfl : j = cs.length := by omega
   obtain ⟨⟨u0, u1⟩, f0, f1⟩ := qo HX.out
   have hz := qC HX.out
   have e0 : posC cs - posC (cs.take cs.length) = 0 := by rw [List.take_length]; omega
   rw [e0]
   clear HA
   go_wp2
   refine bodyPost_ret (v := .agg #[.int .i64 0, .int .i64 0]) (by simp [results, Tryz.results68, go_sem, u0, u1]) rfl ⟨rfl, ?_, ?_⟩
   ·exact HGO.out _ _ _ HW.out ((qX HX.out rfl).trans (qX (qAj HX.out rfl) rfl))
   ·exact HK.out.trans (KS.below ((qX HX.out rfl).trans (qX (qAj HX.out rfl) rfl)))
structure WM (w : World) (base gw : Nat) (lv : Value) (mb : Nat) (es : Array MapEntry) (ck : Nat) (k : Int) (ps : List (Value × Int)) : Prop where
 box : w.heap[gw]? = some (.cells #[lv, .slice none 0 0, .map (some mb), .int .i64 k] 134 (0, 0))
 row : w.ownsRow base 145 2 lv ps.length (lnC ps)
 mp : w.heap[mb]? = some (.map es ck)
 lt : gw < base
theorem WM.go {w w' : World} {B gw : Nat} {lv : Value} {mb : Nat} {es : Array MapEntry} {ck : Nat} {k : Int} {ps : List (Value × Int)} (h : WM w B gw lv mb es ck k ps) (hb : Below w.heap.size w w') : WM w' B gw lv mb es ck k ps :=
 ⟨by rw [hb.block _ (qC h.box)]; exact h.box, Sc.qd h.row hb (Nat.le_refl _), by rw [hb.block _ (qC h.mp)]; exact h.mp, h.lt⟩
theorem WM.put {w : World} {B gw : Nat} {lv : Value} {mb : Nat} {es : Array MapEntry} {ck : Nat} {k : Int} {ps : List (Value × Int)} (h : WM w B gw lv mb es ck k ps) {q : Nat} {c : Array Value} {t : TypeId} {f : Nat × Nat} (hq : w.heap[q]? = some (.cells c t f)) (h1 : t ≠ 145) (h2 : t ≠ 134) (i : Nat) (x : Value) :
  WM (w.setCell ⟨q, i, none⟩ x) B gw lv mb es ck k ps := by
 refine ⟨?_, h.row.kept (gset w q i x) ?_, ?_, h.lt⟩
 ·rw [Below.heap_setCell _ _ _ _ (by intro e; subst e; rw [h.box] at hq; injection hq with hq; injection hq with _ h3; exact h2 h3.symm)]
  exact h.box
 ·exact .inr (fun e => qAY h.row hq h1 e.symm)
 ·rw [Below.heap_setCell _ _ _ _ (by intro e; subst e; rw [h.mp] at hq; cases hq)]
  exact h.mp
theorem WM.look {w : World} {B gw : Nat} {lv : Value} {mb : Nat} {es : Array MapEntry} {ck : Nat} {k : Int} {ps : List (Value × Int)} (h : WM w B gw lv mb es ck k ps) (k' : Int) : WM (w.setCell ⟨gw, 3, none⟩ (.int .i64 k')) B gw lv mb es ck k' ps :=
 ⟨qJ h.box, qAr h.row h.lt, by rw [Below.heap_setCell _ _ _ _ (by intro e; subst e; have := h.box.symm.trans h.mp; cases this)]; exact h.mp, h.lt⟩
theorem stand_m (gw mb : Nat) (lv : Value) (es : Array MapEntry) (ck : Nat) (k : Int) (ps : List (Value × Int)) (ad : Option Addr) (len cap : Nat) (p : Int) (w : World) (B : Nat) (hB : B <= w.heap.size) (h : WM w B gw lv mb es ck k ps) (hl : ps.length < 200) :
  Calls Tryz.prog 124 #[.pointer (some ⟨gw, 0, none⟩), .agg #[.slice ad len cap, .int .i64 p]] w fun r w' => r = .returned (.int .i64 0) /\ (∃ lv', WM w' B gw lv' mb es ck k (ps ++ [(.slice ad len cap, p)])) /\ Fr gw B w w' /\ (∀ i, i < w.heap.size -> i ≠ gw -> some i ≠ lv.ownBlock -> w'.heap[i]? = w.heap[i]?) := by
 obtain ⟨la, lc, rfl⟩ := qG h.row
 have c0 : w.cell? ⟨gw, 0, none⟩ = some (.slice la ps.length lc) := qB h.box rfl
 have hg := qC h.box
 have hl' : ((ps.length : Int) == 200) = false := by simp; omega
 have hrow : (((w.alloc (.cells #[.slice ad len cap, .int .i64 p] 145)).alloc (.cells #[.slice ad len cap, .int .i64 p] 145)).drew).ownsRow B 145 2 (.slice la ps.length lc) ps.length (lnC ps) := (h.row.alloc _).alloc _
 obtain ⟨v', w', happ, hr', hgr⟩ := app1 99 145 _ 2 32 Tryz.underlying99 qIB rfl (by decide) (by decide) hrow (by simp; omega) [.slice ad len cap, .int .i64 p] rfl (w.heap.size + 1) (qH _ _ (by simp)) (by intro u hu; simp at hu; rcases hu with rfl | rfl <;> rfl) (by omega)
 have hbox : (((w.alloc (.cells #[.slice ad len cap, .int .i64 p] 145)).alloc (.cells #[.slice ad len cap, .int .i64 p] 145)).drew).heap[gw]? = some (.cells #[.slice la ps.length lc, .slice none 0 0, .map (some mb), .int .i64 k] 134 (0, 0)) := by
  show (World.alloc _ _).heap[gw]? = _
  rw [old2 _ _ (by simp; omega), old2 _ _ hg]
  exact h.box
 have hmp : (((w.alloc (.cells #[.slice ad len cap, .int .i64 p] 145)).alloc (.cells #[.slice ad len cap, .int .i64 p] 145)).drew).heap[mb]? = some (.map es ck) := by
  have hm := qC h.mp
  show (World.alloc _ _).heap[mb]? = _
  rw [old2 _ _ (by simp; omega), old2 _ _ hm]
  exact h.mp
 obtain ⟨la', lc', rfl⟩ := qG hr'
 have hbox' := (hgr.block gw (qC hbox) (qAY hrow hbox (by decide))).trans hbox
 have hmp' := (hgr.block mb (qC hmp) (qGn hrow hmp)).trans hmp
 have HF : Hid (Fr gw B w w') := by
  refine Fr.trans (Fr.below (by go_grown)) (Fr.grown hgr (by go_size) ?_)
  intro q hq
  exact .inr (hrow.lt q hq).1
 have HO : Hid (∀ i, i < w.heap.size -> i ≠ gw -> some i ≠ (Value.slice la ps.length lc).ownBlock -> w'.heap[i]? = w.heap[i]?) := fun i hi h1 h2 => by
  rw [hgr.block i (by go_size) h2]
  show (World.alloc _ _).heap[i]? = _
  rw [old2 _ _ (by go_size), old2 _ _ hi]
 have HW : Hid (WM (w'.setCell ⟨gw, 0, none⟩ (.slice la' (ps.length + 1) lc')) B gw (.slice la' (ps.length + 1) lc') mb es ck k (ps ++ [(.slice ad len cap, p)])) := by
  refine ⟨qJ hbox', ?_, ?_, h.lt⟩
  ·have e : (ps ++ [(Value.slice ad len cap, p)]).length = ps.length + 1 := by simp
   have e2 : lnC (ps ++ [(Value.slice ad len cap, p)]) = lnC ps ++ [.slice ad len cap, .int .i64 p] := by simp [lnC]
   rw [e, e2]
   exact qAr hr' h.lt
  ·rw [Below.heap_setCell _ _ _ _ (by intro e; subst e; rw [hbox'] at hmp'; cases hmp')]
   exact hmp'
 have d0 : w'.cell? ⟨gw, 0, none⟩ = some (.slice la ps.length lc) := qB hbox' rfl
 have f0 : w'.frozen? ⟨gw, 0, none⟩ = false := qD hbox'
 have hg' := qC hbox'
 clear hrow hr' hgr hbox hmp hbox' hmp' h
 go_enter Tryz.func124, Tryz.ntmps124
 go_wp2_with fail
 go_region_law (refine qCJ rfl _ _ _ _ rfl _ _ rfl rfl happ ?_)
 all_goals
  go_wp2
  go_ret
  exact ⟨rfl, ⟨_, HW.out⟩, HF.out.trans (Fr.of (gset w' gw 0 _) (Nat.le_trans hB HF.out.size)), fun i hi h1 h2 => by rw [Below.heap_setCell _ _ _ _ h1]; exact HO.out i hi h1 h2⟩
theorem step_m (gw mb : Nat) (lv : Value) (es : Array MapEntry) (ck : Nat) (k : Int) (ps : List (Value × Int)) (b o n cap : Nat) (ad : Option Addr) (len lcap : Nat) (p d : Int) (s : ByteArray) (w : World) (B : Nat) (hB : B <= w.heap.size) (h : WM w B gw lv mb es ck k ps) (hl : ps.length < 200)
  (c0 : w.cell? ⟨b, o, none⟩ = some (.slice ad len lcap)) (c1 : w.cell? ⟨b, o + 1, none⟩ = some (.int .i64 p)) (hb : b < w.heap.size) (hh : ∀ W, Below w.heap.size w W -> Calls Tryz.prog 118 #[.slice ad len lcap] W fun r w' => r = .returned (.string s) /\ Below W.heap.size W w') (hp : qZ s) (hlk : ∀ W, W.heap[mb]? = some (.map es ck) -> (Instr.lookup 132 (.map (some mb)) (.string s) true).run Tryz.prog W = .ok (.tuple #[.nilFunc, .bool false]) W) :
  Calls Tryz.prog 88 #[.pointer (some ⟨gw, 0, none⟩), .slice (some ⟨b, o, none⟩) (n + 1) cap, .int .i64 d] w fun r w' => r = .returned (.tuple #[.int .i64 1, .agg #[.int .i64 0, .int .i64 0]]) /\ (∃ lv', WM w' B gw lv' mb es ck k (ps ++ [(.slice ad len lcap, p)])) /\ Fr gw B w w' /\ (∀ i, i < w.heap.size -> i ≠ gw -> some i ≠ lv.ownBlock -> w'.heap[i]? = w.heap[i]?) := by
 have HH := Lib.hid hh
 have HLK := Lib.hid hlk
 clear hlk hh
 have q0 := hp _ (List.mem_of_getElem? (show heads[0]? = _ from rfl))
 have q1 := hp _ (List.mem_of_getElem? (show heads[1]? = _ from rfl))
 have q2 := hp _ (List.mem_of_getElem? (show heads[2]? = _ from rfl))
 have q3 := hp _ (List.mem_of_getElem? (show heads[3]? = _ from rfl))
 have q4 := hp _ (List.mem_of_getElem? (show heads[4]? = _ from rfl))
 have q5 := hp _ (List.mem_of_getElem? (show heads[5]? = _ from rfl))
 have q6 := hp _ (List.mem_of_getElem? (show heads[6]? = _ from rfl))
 have q7 := hp _ (List.mem_of_getElem? (show heads[7]? = _ from rfl))
 have hW : ∀ W, Below w.heap.size w W -> WM W B gw lv mb es ck k ps := fun W hb => ⟨by rw [hb.block _ (qC h.box)]; exact h.box, Sc.qd h.row hb (Nat.le_refl _), by rw [hb.block _ (qC h.mp)]; exact h.mp, h.lt⟩
 have HS := Lib.hid fun W (hb : Below w.heap.size w W) => stand_m gw mb lv es ck k ps ad len lcap p W B (Nat.le_trans hB hb.size) (hW W hb) hl
 have HW := Lib.hid hW
 clear hW h hp
 go_enter Tryz.func88, Tryz.ntmps88
 go_wp2_with fail
 refine (HH.out _ (by go_grown)).mono ?_
 rintro e w1 ⟨rfl, hb1⟩
 have HB1 : Hid (Below w.heap.size w w1) := by
  refine Below.trans ?_ (hb1.mono (by go_size))
  go_grown
 have x0 : w1.heap[w.heap.size]? = some (.cells #[.int .i64 0, .int .i64 0] 36 (0, 0)) := by
  rw [hb1.block _ (by go_size), old2 _ _ (by go_size)]
  exact qH _ _ (by go_size)
 have x1 : w1.heap[w.heap.size + 1]? = some (.cells #[.slice ad len lcap, .int .i64 p] 145 (0, 0)) := by
  rw [hb1.block _ (by go_size)]
  exact qH _ _ (by go_size)
 have y0 : w1.cell? ⟨w.heap.size + 1, 0, none⟩ = some (.slice ad len lcap) := qB x1 rfl
 have y1 : w1.cell? ⟨w.heap.size + 1, 1, none⟩ = some (.int .i64 p) := qB x1 rfl
 have hm := HLK.out w1 (HW.out w1 HB1.out).mp
 have hg1 : w1.cell? ⟨gw, 2, none⟩ = some (.map (some mb)) := qB (HW.out w1 HB1.out).box rfl
 have X0 := Lib.hid x0
 have X1 := Lib.hid x1
 have hz1 := qC x1
 have HO : Hid (∀ i, w.heap.size <= i -> i ≠ gw /\ some i ≠ lv.ownBlock) := fun i hi => ⟨fun e => by have := qC (HW.out w (Below.refl _ _)).box; omega, fun e => by have := ((HW.out w (Below.refl _ _)).row.lt i e.symm).2; omega⟩
 have HF := Lib.hid fun W => qEE (.slice ad len lcap) p 0 W
 simp only [if_true] at HF
 clear hb1 x0 x1 HH
 go_wp2_with fail
 go_region_with (first
  | (go_at_call 124; refine (HS.out _ (HB1.out.drew)).mono ?_; rintro e w2 ⟨rfl, hw2, hf2, ho2⟩; have x2 : w2.heap[w.heap.size + 1]? = some (.cells #[.slice ad len lcap, .int .i64 p] 145 (0, 0)) := (ho2 _ hz1 (HO.out _ (by omega)).1 (HO.out _ (by omega)).2).trans X1.out; have z0 : w2.cell? ⟨w.heap.size + 1, 0, none⟩ = some (.slice ad len lcap) := qB x2 rfl; have z1 : w2.cell? ⟨w.heap.size + 1, 1, none⟩ = some (.int .i64 p) := qB x2 rfl; have X2 := Lib.hid ((ho2 _ (by show w.heap.size < w1.heap.size; omega) (HO.out _ (by omega)).1 (HO.out _ (by omega)).2).trans X0.out); have hz2 := qC x2; have HW2 := Lib.hid hw2; have HF2 := Lib.hid hf2; have HO2 := Lib.hid ho2; clear x2 hw2 hf2 ho2)
  | (go_at_call 87; refine (HF.out _).mono ?_; rintro e w3 ⟨rfl, hb3⟩; obtain ⟨⟨u0, u1⟩, f0, f1⟩ := qo ((hb3.block _ (by show w.heap.size < w2.heap.size; omega)).trans X2.out); have HB3 := Lib.hid hb3; clear hb3))
 all_goals
  go_wp2
  refine bodyPost_ret (v := .tuple #[.int .i64 1, .agg #[.int .i64 0, .int .i64 0]]) (by simp [results, Tryz.results88, go_sem, u0, u1]) rfl ⟨rfl, ?_, ?_, ?_⟩
  ·obtain ⟨lv', h2⟩ := HW2.out
   have x3 := (HB3.out.block _ (by show w.heap.size < w2.heap.size; omega)).trans X2.out
   exact ⟨lv', ((h2.go HB3.out).put x3 (by decide) (by decide) 0 _).put (qJ x3) (by decide) (by decide) 1 _⟩
  ·have h0 : B <= w2.heap.size := by omega
   exact ((Fr.below (HB1.out.drew.mono hB)).trans HF2.out).trans (Fr.below (((HB3.out.mono h0).setCell hB _).setCell hB _))
  ·intro i hi h1 h2
   rw [Below.heap_setCell _ _ _ _ (by show i ≠ w.heap.size; omega), Below.heap_setCell _ _ _ _ (by show i ≠ w.heap.size; omega), HB3.out.block i (by omega), HO2.out i (by show i < w1.heap.size; omega) h1 h2]
   exact HB1.out.block i hi
end Go.Proofs.YtgjmbjahgcndnaaGreatDoor
