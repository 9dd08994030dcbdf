/- Macro: what stands between commas. Macro: lines done one behind the other, whatever each step makes. Macro: a line done again and again. -/
import Derived.Test.YtjmjhbdlbmnllaaGreatDoorPut29
namespace Go.Proofs.YtjmjhbdlbmnllaaGreatDoor
open Go.RowKit

/-- Whether a token is a comma. -/
def isComma (x : Tk) : Bool := x.k == 3 && x.t.toList == [44]
/-- What stands between commas, from a piece that was begun on. -/
def splitT : List Tk → List Tk → List (List Tk)
  | cur, [] => [cur]
  | cur, x :: r => if isComma x = true then cur :: splitT [] r else splitT (cur ++ [x]) r
/-- Split: nothing, if there is no token at all. -/
def piecesT (ts : List Tk) : List (List Tk) := if ts = [] then [] else splitT [] ts

theorem infoTx : (Tryz.prog.info? 92).map (fun i => (i.zero, i.size, i.bytes)) = some (some (.slice none 0 0), 1, 24) := by kernel_rfl

/-- A piece of a text. -/
theorem PReads.piece {w : World} {b o cap : Nat} {ts : List Tk} (h : PReads w (.slice (some ⟨b, o, none⟩) ts.length cap) ts) {i j : Nat} (hij : i ≤ j) (hj : j ≤ ts.length) (hi : i < ts.length) : PReads w (.slice (some ⟨b, o + i * 4, none⟩) (j - i) (cap - i)) ((ts.take j).drop i) := by
  obtain ⟨ad, cap', e, hc, hm, h⟩ := h
  injection e with e1 _ e3
  subst e1 e3
  obtain ⟨b', o', e', hlt, hcell⟩ := h (by omega)
  injection e' with e'
  injection e' with e1 e2 _
  subst e1 e2
  have hl : ((ts.take j).drop i).length = j - i := by simp; omega
  refine ⟨some ⟨b, o + i * 4, none⟩, cap - i, by rw [hl], by rw [hl]; omega, by omega, fun _ => ⟨b, o + i * 4, rfl, hlt, fun k hk => ?_⟩⟩
  rw [hl] at hk
  have := hcell (i + k) (by omega)
  rw [show o + (i + k) * 4 = o + i * 4 + k * 4 by omega] at this
  simpa using this

theorem split_nil (ad : Option Addr) (cap : Nat) (w : World) : Calls Tryz.prog 98 #[.slice ad 0 cap] w fun r w' => r = .returned (.slice none 0 0) ∧ w' = w := by
  go_enter Tryz.func98, Tryz.ntmps98
  go_wp2
  go_ret
  exact ⟨rfl, rfl⟩

/-- A row of texts, each one's tokens. -/
def TRow (w W : World) (base : Nat) (ov : Value) (vs : List Value) (ps : List (List Tk)) : Prop := W.ownsRow base 92 1 ov vs.length vs ∧ vs.length = ps.length ∧ ∀ i (h : i < vs.length) (h' : i < ps.length), PReads w vs[i] ps[i]

theorem TRow.app {w w1 : World} {oa : Option Addr} {oc : Nat} {vs : List Value} {done : List (List Tk)} (hr : TRow w w1 w.heap.size (.slice oa vs.length oc) vs done) (hb : Below w.heap.size w w1) (hl : vs.length ≤ 100000) (pa : Option Addr) (pn pc : Nat) (piece : List Tk) (hp : PReads w (.slice pa pn pc) piece) :
    ∃ la lc w2, (∀ ty, (Builtin.append_ #[183, 183] ty #[.slice oa vs.length oc, .slice (some ⟨w1.heap.size, 0, none⟩) 1 1]).run Tryz.prog (w1.alloc (.cells #[.slice pa pn pc] 92)) = .ok (.slice la (vs.length + 1) lc) w2) ∧
      TRow w w2 w.heap.size (.slice la (vs.length + 1) lc) (vs ++ [.slice pa pn pc]) (done ++ [piece]) ∧ Below w.heap.size w w2 := by
  have hrow := hr.1.alloc (.cells #[.slice pa pn pc] 92)
  obtain ⟨v', w2, happ, hr', hgr⟩ := app1 183 92 _ 1 24 Tryz.underlying183 infoTx rfl (by decide) (by decide) hrow (by have := hb.size; go_size) [.slice pa pn pc] rfl w1.heap.size (new_at _ _ rfl) (by intro u hu; simp at hu; subst hu; rfl) (by omega)
  obtain ⟨la, lc, rfl⟩ := row_shape hr'
  refine ⟨la, lc, w2, happ, ⟨by simpa using hr', by simp [hr.2.1], fun k h1 h2 => ?_⟩, ?_⟩
  · by_cases hk : k < vs.length
    · have hk2 : k < done.length := by rw [← hr.2.1]; exact hk
      rw [List.getElem_append_left hk, List.getElem_append_left hk2]
      exact hr.2.2 k hk hk2
    · have e : k = vs.length := by simp at h1; omega
      subst e
      have e2 : done.length = vs.length := hr.2.1.symm
      simp only [List.getElem_append_right (Nat.le_refl _), List.getElem_append_right (Nat.le_of_eq e2), Nat.sub_self, List.getElem_cons_zero, e2]
      exact hp
  · exact (hb.alloc hb.size _).grown hgr (by have := hb.size; go_size) (fun k hk => (hrow.lt k hk).1)
theorem PReads.none (w : World) (ad : Option Addr) (c : Nat) (h : c ≤ maxLen) : PReads w (.slice ad 0 c) [] := ⟨ad, c, rfl, Nat.zero_le _, h, fun h => by simp at h⟩

theorem splitT_comma {cur r : List Tk} {x : Tk} {done : List (List Tk)} {X : List (List Tk)} (h : X = done ++ splitT cur (x :: r)) (hx : isComma x = true) : X = (done ++ [cur]) ++ splitT [] r := by
  rw [h, splitT, if_pos hx]; simp
theorem splitT_other {cur r : List Tk} {x : Tk} {done : List (List Tk)} {X : List (List Tk)} (h : X = done ++ splitT cur (x :: r)) (hx : isComma x = false) : X = done ++ splitT (cur ++ [x]) r := by
  rw [h, splitT, if_neg (by simp [hx])]

set_option maxHeartbeats 4000000 in
set_option maxRecDepth 100000 in
theorem split_some (b o cap : Nat) (ts : List Tk) (w : World) (h : PReads w (.slice (some ⟨b, o, none⟩) ts.length cap) ts) (h0 : 0 < ts.length) (hn : ts.length ≤ 100000) :
    Calls Tryz.prog 98 #[.slice (some ⟨b, o, none⟩) ts.length cap] w fun r w' => (∃ ov vs, r = .returned ov ∧ TRow w w' w.heap.size ov vs (splitT [] ts)) ∧ Below w.heap.size w w' := by
  have HT := Lib.hid h
  obtain ⟨ad, cap', e, hc, hmx, hcl⟩ := h
  injection e with e1 _ e3
  subst e1 e3
  obtain ⟨b', o', e', hlt, hcell⟩ := hcl h0
  injection e' with e'
  injection e' with e1 e2 _
  subst e1 e2
  have HC := Lib.hid hcell
  clear hcl hcell
  have hne : ((ts.length : Int) == 0) = false := beq_eq_false_iff_ne.2 (by omega)
  unfold maxLen at hmx
  go_enter Tryz.func98, Tryz.ntmps98
  go_wp2_with fail
  go_loopw [3, 4, 12] (fun ov fv iv wr => ∃ (i f : Nat) (vs : List Value) (done : List (List Tk)), f ≤ i ∧ i ≤ ts.length ∧ iv = .int .i64 i ∧ fv = .int .i64 f ∧ Hid (TRow w wr w.heap.size ov vs done) ∧ Hid (Below w.heap.size w wr) ∧ vs.length ≤ i ∧ Hid (splitT [] ts = done ++ splitT ((ts.take i).drop f) (ts.drop i))) (fun _ _ iv _ => ts.length - (intOf iv).toNat)
  case atStart => exact ⟨0, 0, [], [], Nat.le_refl _, Nat.zero_le _, rfl, rfl, ⟨World.ownsRow_nil _ _ _ _, rfl, fun i h => by simp at h⟩, Below.refl _ _, Nat.le_refl _, by simp [Hid]⟩
  case round =>
    obtain ⟨i, f, vs, done, hf, hi, rfl, rfl, HR, HB, hvl, HS⟩ := hrel
    by_cases hlt2 : i < ts.length
    · have hi' : (i : Int) < ts.length := by omega
      obtain ⟨k0, k1, k2, k3⟩ := HC.out i hlt2
      have hz := HB.out.size
      replace k0 := (HB.out.cell (by show b < w.heap.size; exact hlt)).trans k0
      replace k1 := (HB.out.cell (by show b < w.heap.size; exact hlt)).trans k1
      replace k2 := (HB.out.cell (by show b < w.heap.size; exact hlt)).trans k2
      replace k3 := (HB.out.cell (by show b < w.heap.size; exact hlt)).trans k3
      have hb2 : b < wr.heap.size := by omega
      obtain ⟨x, hx⟩ : ∃ x, ts[i]'hlt2 = x := ⟨_, rfl⟩
      have HD : Hid (ts.drop i = x :: ts.drop (i + 1)) := by rw [← hx]; exact List.drop_eq_getElem_cons hlt2
      have HTK : Hid ((ts.take (i + 1)).drop f = (ts.take i).drop f ++ [x]) := by
        unfold Hid
        rw [List.take_succ_eq_append_getElem hlt2, hx, List.drop_append_of_le_length (by simp; omega)]
      have HPC : Hid (PReads w (.slice (some ⟨b, o + f * 4, none⟩) (i - f) (cap - f)) ((ts.take i).drop f)) := HT.out.piece hf hi (by omega)
      rw [hx] at k0 k1 k2
      clear hx
      obtain ⟨xk, xn, xt⟩ := x
      simp only at k0 k1 k2
      have HCM := Lib.hid fun W => comma_any xk xn xt W
      have HIC : Hid (isComma ⟨xk, xn, xt⟩ = (xk == 3 && xt.toList == [44])) := rfl
      unfold tokV at HCM
      obtain ⟨oa, oc, hov⟩ := row_shape HR.out.1
      subst hov
      cases hcm : (xk == 3 && xt.toList == [44])
      · rw [hcm] at HCM HIC
        have HS2 : Hid (splitT [] ts = done ++ splitT ((ts.take (i + 1)).drop f) (ts.drop (i + 1))) := by
          unfold Hid
          rw [HTK.out]
          exact splitT_other (by rw [← HD.out]; exact HS.out) HIC.out
        go_wp2_with (go_at_call 128; refine (HCM.out _).mono ?_; rintro e w1 ⟨rfl, hb1⟩; have HB1 : Hid (Below w.heap.size w w1) := Below.trans (by have hb := HB.out; go_grown) (hb1.mono (by go_size)); have HR1 : Hid (TRow w w1 w.heap.size (.slice oa vs.length oc) vs done) := ⟨Sc.owns_below (HR.out.1.alloc _) hb1 (Nat.le_refl _), HR.out.2⟩; clear hb1)
        exact ⟨⟨i + 1, f, vs, done, by omega, by omega, by go_num, rfl, HR1, HB1, by omega, HS2⟩, by simp [intOf]; omega⟩
      · rw [hcm] at HCM HIC
        have HS2 : Hid (splitT [] ts = (done ++ [(ts.take i).drop f]) ++ splitT ((ts.take (i + 1)).drop (i + 1)) (ts.drop (i + 1))) := by
          unfold Hid
          have e : (ts.take (i + 1)).drop (i + 1) = [] := List.drop_eq_nil_of_le (by simp; omega)
          rw [e]
          exact splitT_comma (by rw [← HD.out]; exact HS.out) HIC.out
        have hfi : (f : Int) ≤ i := by omega
        have hic : (i : Int) ≤ cap := by omega
        have hcf : ¬ cap - f = 0 := by omega
        go_wp2_with (first
          | (go_at_call 128; refine (HCM.out _).mono ?_; rintro e w1 ⟨rfl, hb1⟩; have HB1 : Hid (Below w.heap.size w w1) := Below.trans (by have hb := HB.out; go_grown) (hb1.mono (by go_size)); have HR1 : Hid (TRow w w1 w.heap.size (.slice oa vs.length oc) vs done) := ⟨Sc.owns_below (HR.out.1.alloc _) hb1 (Nat.le_refl _), HR.out.2⟩; obtain ⟨la, lc, w2, happ, hr2, hb2⟩ := HR1.out.app HB1.out (by omega) _ _ _ _ HPC.out; have HA := Lib.hid happ; have HR2 := Lib.hid hr2; have HB2 := Lib.hid hb2; clear hb1 happ hr2 hb2)
          | (at_builtin; refine wpList_app_eq rfl _ _ _ _ rfl _ _ rfl rfl HA.out ?_))
        exact ⟨⟨i + 1, i + 1, _, _, Nat.le_refl _, by omega, by go_num, by go_num, HR2, HB2, by simp; omega, HS2⟩, by simp [intOf]; omega⟩
    · obtain rfl : i = ts.length := by omega
      have hi' : ¬ ((ts.length : Nat) : Int) < ts.length := by omega
      obtain ⟨oa, oc, hov⟩ := row_shape HR.out.1
      subst hov
      have hfi : (f : Int) ≤ ts.length := by omega
      have hic : (ts.length : Int) ≤ cap := by omega
      have HE : Hid (splitT [] ts = done ++ [(ts.take ts.length).drop f]) := by
        have := HS.out
        rw [List.drop_length] at this
        exact this
      have hmx' : cap ≤ maxLen := by unfold maxLen; omega
      by_cases hcf : cap - f = 0
      · have e1 : f = ts.length := by omega
        have e2 : ts.length - f = 0 := by omega
        have HP : Hid (PReads w (.slice (some ⟨b, o, none⟩) (ts.length - f) 0) ((ts.take ts.length).drop f)) := by
          unfold Hid
          rw [List.take_length, e1, List.drop_length, Nat.sub_self]
          exact PReads.none w _ _ (Nat.zero_le _)
        obtain ⟨la, lc, w2, happ, hr2, hb2⟩ := HR.out.app HB.out (by omega) _ _ _ _ HP.out
        have HA := Lib.hid happ
        have HR2 := Lib.hid hr2
        have HB2 := Lib.hid hb2
        clear happ hr2 hb2 e1 e2
        go_wp2_with (at_builtin; refine wpList_app_eq rfl _ _ _ _ rfl _ _ rfl rfl HA.out ?_)
        go_ret
        refine ⟨?_, HB2.out⟩
        rw [HE.out]
        exact ⟨_, rfl, _, HR2.out⟩
      · have HP : Hid (PReads w (.slice (some ⟨b, o + f * 4, none⟩) (ts.length - f) (cap - f)) ((ts.take ts.length).drop f)) := by
          by_cases hfl : f < ts.length
          · exact HT.out.piece hf (Nat.le_refl _) hfl
          · have e1 : f = ts.length := by omega
            unfold Hid
            rw [List.take_length, e1, List.drop_length, Nat.sub_self]
            exact PReads.none w _ _ (by omega)
        obtain ⟨la, lc, w2, happ, hr2, hb2⟩ := HR.out.app HB.out (by omega) _ _ _ _ HP.out
        have HA := Lib.hid happ
        have HR2 := Lib.hid hr2
        have HB2 := Lib.hid hb2
        clear happ hr2 hb2
        go_wp2_with (at_builtin; refine wpList_app_eq rfl _ _ _ _ rfl _ _ rfl rfl HA.out ?_)
        go_ret
        refine ⟨?_, HB2.out⟩
        rw [HE.out]
        exact ⟨_, rfl, _, HR2.out⟩

/-- What stands between commas of any text of tokens alone. -/
theorem split_any (v : Value) (ts : List Tk) (w : World) (h : PReads w v ts) (hn : ts.length ≤ 100000) :
    Calls Tryz.prog 98 #[v] w fun r w' => (∃ ov vs, r = .returned ov ∧ TRow w w' w.heap.size ov vs (piecesT ts)) ∧ Below w.heap.size w w' := by
  obtain ⟨ad, cap, rfl, hc, hm, hcl⟩ := id h
  cases ts with
  | nil =>
    refine (split_nil ad cap w).mono ?_
    rintro e w' ⟨rfl, rfl⟩
    exact ⟨⟨_, [], rfl, World.ownsRow_nil _ _ _ _, rfl, fun i h => by simp at h⟩, Below.refl _ _⟩
  | cons x r =>
    obtain ⟨b, o, rfl, hlt, _⟩ := hcl (by simp)
    refine (split_some b o cap (x :: r) w h (by simp) hn).mono ?_
    rintro e w' ⟨h1, h2⟩
    exact ⟨by simpa [piecesT] using h1, h2⟩

end Go.Proofs.YtjmjhbdlbmnllaaGreatDoor

namespace Go.Proofs.YtjmjhbdlbmnllaaGreatDoor
open Go.RowKit

end Go.Proofs.YtjmjhbdlbmnllaaGreatDoor

namespace Go.Proofs.YtjmjhbdlbmnllaaGreatDoor
open Go.RowKit

end Go.Proofs.YtjmjhbdlbmnllaaGreatDoor
