import Derived.Test.YtfmljailbebfgaaGreatDoorPut10
import Derived.Maps.OwnSet
import Derived.Test.YtfmljailbebfgaaGreatDoorIsaRefB
set_option maxHeartbeats 8000000
set_option maxRecDepth 100000
namespace Go.Proofs.YtfmljailbebfgaaGreatDoor.Li
open Go.RowKit Go.Maps
theorem qF9 (s : ByteArray) (w : World) :
  Calls Tryz.prog 77 #[.string s] w fun e w' => e = .returned (.bool (qO s.data.toList)) /\ w = w' :=
 (qC9 s w).mono fun _ _ h => ⟨h.1, h.2.symm⟩
theorem qEC (n : Int) (w : World) :
  Calls Tryz.prog 60 #[.int .i64 n] w fun e w' => e = .returned (.int .i64 (wrap32 n)) /\ w' = w :=
 (Oi.qA4 n w).mono fun _ _ h => ⟨h.1.trans (qU (by unfold wrap32 wrap64; omega)), h.2⟩
def relV (r : Re) : Value := .agg #[.int .i64 r.pos, .int .i64 r.size, .string ⟨r.name.toArray⟩, .int .i64 r.add]
theorem wrel_any (r : Re) (last : Int) (len : Nat) (w : World) (hl0 : 0 <= last) (hlen : len <= 8000) :
  Calls Tryz.prog 78 #[relV r, .int .i64 last, .int .i64 (len : Int)] w fun e w' => e = .returned (.int .i64 (qBH qO len last r)) /\ Below w.heap.size w w' := by
 obtain ⟨rp, rz, rn, ra⟩ := r
 unfold relV
 simp only
 have hnm : ∀ W, Calls Tryz.prog 77 #[.string ⟨rn.toArray⟩] W fun e w' => e = .returned (.bool (qO rn)) /\ W = w' := fun W => qF9 ⟨rn.toArray⟩ W
 obtain ⟨E, hE⟩ : ∃ E, E = qBH qO len last ⟨rp, rz, rn, ra⟩ := ⟨_, rfl⟩
 rw [<- hE]
 have HE := Lib.hid hE
 clear hE
 by_cases hz24 : rz ≠ 2 /\ rz ≠ 4
 ·have e2 : (rz != 2) = true := by simpa using hz24.1
  have e4 : (rz != 4) = true := by simpa using hz24.2
  have HX : Hid (E = 1) := by unfold Hid; rw [HE.out]; unfold qBH; rw [if_pos hz24]
  clear hz24
  go_enter Tryz.func78, Tryz.ntmps78
  go_wp2
  go_ret
  exact ⟨qU HX.out.symm, qD _ _⟩
 ·have hzz : rz = 2 \/ rz = 4 := by omega
  clear hz24
  by_cases hp : rp < last \/ (len : Int) - rz < rp
  ·have HX : Hid (E = 3) := by unfold Hid; rw [HE.out]; unfold qBH; rw [if_neg (by simp only; omega), if_pos (by simp only; omega)]
   rcases hzz with rfl | rfl
   all_goals
    by_cases hp1 : rp < last
    ·clear hp
     go_enter Tryz.func78, Tryz.ntmps78
     go_wp2
     go_ret
     exact ⟨qU HX.out.symm, qD _ _⟩
    ·have hp2 := hp.resolve_left hp1
     clear hp
     go_enter Tryz.func78, Tryz.ntmps78
     go_wp2
     go_ret
     exact ⟨qU HX.out.symm, qD _ _⟩
  ·have hp1 : ¬ rp < last := fun h => hp (.inl h)
   have hp2 : ¬ (len : Int) - rz < rp := fun h => hp (.inr h)
   have hrp : 0 <= rp := by omega
   have hpp : ¬ (rp < last \/ 8000 < rp \/ (len : Int) < rp + rz) := by omega
   clear hp
   by_cases hal : rp % rz = 0
   ·by_cases hn : rn ≠ [] /\ qO rn = false
    ·have HX : Hid (E = 7) := by unfold Hid; rw [HE.out]; unfold qBH; rw [if_neg (by simp only; omega), if_neg hpp, if_neg (by simpa using hal), if_pos hn]
     have n1 : (rn == []) = false := by simpa using hn.1
     rw [hn.2] at hnm
     clear hn hpp
     rcases hzz with rfl | rfl
     all_goals
      have hal2 : (rp % _ != 0) = false := bne_eq_false_iff_eq.2 hal
      go_enter Tryz.func78, Tryz.ntmps78
      go_wp2_with (go_at_call 77; refine (hnm _).mono ?_; rintro e w' ⟨rfl, rfl⟩)
      go_ret
      exact ⟨qU HX.out.symm, qD _ _⟩
    ·have HN0 : Hid (ra = wrap32 ra -> E = 0) := fun ha => by
      rw [HE.out]; unfold qBH; rw [if_neg (by simp only; omega), if_neg hpp, if_neg (by simpa using hal), if_neg hn, if_neg (by simpa using ha)]
     have HN3 : Hid (ra ≠ wrap32 ra -> E = 3) := fun ha => by
      rw [HE.out]; unfold qBH; rw [if_neg (by simp only; omega), if_neg hpp, if_neg (by simpa using hal), if_neg hn, if_pos ha]
     have HQ : Hid (∀ wy, Below (w.heap.size + 1) (w.alloc (.cells #[.int .i64 rp, .int .i64 rz, .string ⟨rn.toArray⟩, .int .i64 ra] 122)) wy -> Below w.heap.size w wy) := fun wy hby => (qD _ _).trans (hby.mono (Nat.le_succ _))
     clear hpp
     by_cases hn0 : rn = []
     ·have n1 : (rn == []) = true := by simpa using hn0
      clear hn hn0 hnm
      rcases hzz with rfl | rfl
      all_goals
       have hal2 : (rp % _ != 0) = false := bne_eq_false_iff_eq.2 hal
       go_enter Tryz.func78, Tryz.ntmps78
       go_wp2
       go_quiet ((go_at_call 60; exact Calls.quiet_of_same (qEC _ _)))
       generalize hwy : World.drewN _ _ = wy
       have HKY := Lib.hid (HQ.out wy (by subst hwy; exact Go.Joins.below_draws _ _ _))
       clear hwy HQ
       by_cases ha : ra = wrap32 ra
       ·have ha2 : (ra != wrap32 ra) = false := bne_eq_false_iff_eq.2 ha
        have HX := Lib.hid (HN0.out ha)
        clear ha
        go_wp2
        go_ret
        exact ⟨qU HX.out.symm, HKY.out⟩
       ·have ha2 : (ra != wrap32 ra) = true := bne_iff_ne.2 ha
        have HX := Lib.hid (HN3.out ha)
        clear ha
        go_wp2
        go_ret
        exact ⟨qU HX.out.symm, HKY.out⟩
     ·have n1 : (rn == []) = false := by simpa using hn0
      have n2 : qO rn = true := by
       cases h : qO rn
       ·exact absurd ⟨hn0, h⟩ hn
       ·rfl
      rw [n2] at hnm
      clear hn hn0 n2
      rcases hzz with rfl | rfl
      all_goals
       have hal2 : (rp % _ != 0) = false := bne_eq_false_iff_eq.2 hal
       go_enter Tryz.func78, Tryz.ntmps78
       go_wp2_with (go_at_call 77; refine (hnm _).mono ?_; rintro e w' ⟨rfl, rfl⟩)
       go_quiet ((go_at_call 60; exact Calls.quiet_of_same (qEC _ _)))
       generalize hwy : World.drewN _ _ = wy
       have HKY := Lib.hid (HQ.out wy (by subst hwy; exact Go.Joins.below_draws _ _ _))
       clear hwy HQ
       by_cases ha : ra = wrap32 ra
       ·have ha2 : (ra != wrap32 ra) = false := bne_eq_false_iff_eq.2 ha
        have HX := Lib.hid (HN0.out ha)
        clear ha
        go_wp2
        go_ret
        exact ⟨qU HX.out.symm, HKY.out⟩
       ·have ha2 : (ra != wrap32 ra) = true := bne_iff_ne.2 ha
        have HX := Lib.hid (HN3.out ha)
        clear ha
        go_wp2
        go_ret
        exact ⟨qU HX.out.symm, HKY.out⟩
   ·have HX : Hid (E = 11) := by unfold Hid; rw [HE.out]; unfold qBH; rw [if_neg (by simp only; omega), if_neg hpp, if_pos hal]
    clear hpp
    rcases hzz with rfl | rfl
    all_goals
     have hal2 : (rp % _ != 0) = true := bne_iff_ne.2 hal
     go_enter Tryz.func78, Tryz.ntmps78
     go_wp2
     go_ret
     exact ⟨qU HX.out.symm, qD _ _⟩
theorem qKr (l : List Re) (len : Nat) (v : Value) (w : World) (hv : qC2 w v l) (hlen : len <= 8000) (hll : l.length <= 16001) :
  Calls Tryz.prog 48 #[v, .int .i64 (len : Int)] w fun e w' => e = .returned (.int .i64 (qAx qO len 0 l)) /\ Below w.heap.size w w' := by
 obtain ⟨rad, rcap, rfl, hrm, hrc⟩ := hv
 have HRC : Hid (0 < l.length -> ∃ b f, rad = some ⟨b, f, none⟩ /\ b < w.heap.size /\ ∀ i (h : i < l.length),
  w.cell? ⟨b, f + i * 4, none⟩ = some (.int .i64 l[i].pos) /\ w.cell? ⟨b, f + i * 4 + 1, none⟩ = some (.int .i64 l[i].size) /\
  w.cell? ⟨b, f + i * 4 + 2, none⟩ = some (.string ⟨l[i].name.toArray⟩) /\ w.cell? ⟨b, f + i * 4 + 3, none⟩ = some (.int .i64 l[i].add)) := hrc
 clear hrc hrm
 obtain ⟨E, hE⟩ : ∃ E, E = qAx qO len 0 l := ⟨_, rfl⟩
 rw [<- hE]
 have HE0 := Lib.hid hE
 clear hE
 go_enter Tryz.func48, Tryz.ntmps48
 go_wp2
 go_loopw [5, 11] (fun fr i wr => ∃ (k : Nat) (last : Int), k <= l.length /\ i = .int .i64 k /\ fr = .int .i64 last /\ 0 <= last /\ last <= 8004 /\ Below w.heap.size w wr /\ Hid (E = qAx qO len last (l.drop k))) (fun _ i _ => l.length - (intOf i).toNat)
 case atStart => exact ⟨0, 0, Nat.zero_le _, rfl, rfl, by decide, by decide, Below.refl _ _, HE0⟩
 case round =>
  obtain ⟨k, last, hk, rfl, rfl, hl0, hl1, hbel, HE⟩ := hrel
  clear HE0
  by_cases hlt : k < l.length
  ·have hk1 : (k : Int) < l.length := by omega
   obtain ⟨b, f, rfl, hbl, hcell⟩ := HRC.out (by omega)
   obtain ⟨c0, c1, c2, c3⟩ := hcell k hlt
   rw [<- hbel.cell (by exact hbl)] at c0 c1 c2 c3
   have HAT := Lib.hid (qJN (nm := qO) (len := len) (last := last) hlt)
   clear hcell
   have HB := Lib.hid hbel
   have hsz := hbel.size
   clear hbel
   generalize l[k] = r at *
   have hcall := fun W => wrel_any r last len W hl0 hlen
   have HOKB : Hid (qBH qO len last r = 0 -> 0 <= r.pos /\ r.pos <= 8000 /\ (r.size = 2 \/ r.size = 4)) := fun h => by
    have h1 := qKq h
    exact ⟨by omega, h1.2.2.1, h1.1⟩
   obtain ⟨rp, rz, rn, ra⟩ := r
   simp only [relV] at c0 c1 c2 c3 hcall
   obtain ⟨e0, he0⟩ : ∃ e0, e0 = qBH qO len last ⟨rp, rz, rn, ra⟩ := ⟨_, rfl⟩
   rw [<- he0] at hcall
   have HAT2 : Hid (E = if e0 = 0 then qAx qO len (rp + rz) (l.drop (k + 1)) else e0) := by unfold Hid; rw [he0, HE.out, HAT.out]
   have HOK2 : Hid (e0 = 0 -> 0 <= rp /\ rp <= 8000 /\ (rz = 2 \/ rz = 4)) := fun h => HOKB.out (he0 ▸ h)
   clear HAT HE HOKB he0
   have hba := Lib.hid (qD wr (.cells #[.int .i64 rp, .int .i64 rz, .string ⟨rn.toArray⟩, .int .i64 ra] 122))
   by_cases h0 : e0 = 0
   ·subst h0
    obtain ⟨q0, q1, q2⟩ := HOK2.out rfl
    have HX : Hid (E = qAx qO len (rp + rz) (l.drop (k + 1))) := by unfold Hid; rw [HAT2.out, if_pos rfl]
    clear HAT2 HOK2
    have hbig : rp + rz <= 8004 := by omega
    have hbig0 : 0 <= rp + rz := by omega
    clear q0 q1 q2
    have HNX : Hid (∀ w2, Below (wr.heap.size + 1) (wr.alloc (.cells #[.int .i64 rp, .int .i64 rz, .string ⟨rn.toArray⟩, .int .i64 ra] 122)) w2 -> Below w.heap.size w w2 /\ w2.cell? ⟨wr.heap.size, 0, none⟩ = some (.int .i64 rp) /\ w2.cell? ⟨wr.heap.size, 1, none⟩ = some (.int .i64 rz)) := fun w2 h2 =>
     ⟨(HB.out.trans (hba.out.mono hsz)).trans (h2.mono (by omega)), (h2.cell (by show wr.heap.size < wr.heap.size + 1; omega)).trans (by rw [World.cell?_alloc_new]; rfl), (h2.cell (by show wr.heap.size < wr.heap.size + 1; omega)).trans (by rw [World.cell?_alloc_new]; rfl)⟩
    go_wp2_with (go_at_call 78; refine (hcall _).mono ?_; rintro e w2 ⟨rfl, hb2⟩; obtain ⟨hb3, y0, y1⟩ := HNX.out w2 (by simpa using hb2); have HB3 := Lib.hid hb3; clear hb2 hb3)
    exact ⟨⟨k + 1, _, by omega, by go_num, by go_num, by omega, by omega, HB3.out, HX⟩, by simp [intOf]; omega⟩
   ·have HX : Hid (E = e0) := by unfold Hid; rw [HAT2.out, if_neg h0]
    have h0b : (e0 != 0) = true := bne_iff_ne.2 h0
    clear h0 HAT2 HOK2
    have HNX : Hid (∀ w2, Below (wr.heap.size + 1) (wr.alloc (.cells #[.int .i64 rp, .int .i64 rz, .string ⟨rn.toArray⟩, .int .i64 ra] 122)) w2 -> Below w.heap.size w w2) := fun w2 h2 =>
     (HB.out.trans (hba.out.mono hsz)).trans (h2.mono (by omega))
    go_wp2_with (go_at_call 78; refine (hcall _).mono ?_; rintro e w2 ⟨rfl, hb2⟩; have HB3 := Lib.hid (HNX.out w2 (by simpa using hb2)); clear hb2)
    go_ret
    exact ⟨qU HX.out.symm, HB3.out⟩
  ·have hk1 : ¬ (k : Int) < l.length := by omega
   have HX : Hid (E = 0) := by unfold Hid; rw [HE.out, qG8 (by omega)]
   clear HE
   go_wp2
   go_ret
   exact ⟨qU HX.out.symm, hbel⟩
end Go.Proofs.YtfmljailbebfgaaGreatDoor.Li
namespace Go.Proofs.YtfmljailbebfgaaGreatDoor.Li
open Go.RowKit Go.Maps Go.MapKept
theorem lawS : Keyed Tryz.prog 9 := string_keyed Tryz.underlying9
theorem qKN (w : World) : (zeroValue 152).run Tryz.prog w = .ok (.agg #[]) w := by kernel_rfl
def qCM (l : List Sy) : DataW Unit := setOf (.agg []) (l.map fun s => Lit.string s.name)
theorem qGU (l : List Sy) (s : Sy) : qCM (l ++ [s]) = (qCM l).put (.string s.name) (.agg []) := by
 unfold qCM
 rw [List.map_append, List.map_singleton, setOf_snoc]
theorem qHS (a b : List UInt8) : (Lit.string a).sameKey (.string b) = decide (a = b) := by
 by_cases h : a = b
 ·subst h
  rw [WideAt.sameKey_self (by trivial)]
  simp
 ·rw [sameKey_ne (fun e => h (by injection e))]
  simp [h]
theorem qHL (l : List Sy) (n : List UInt8) : Maps.has (qCM l) (.string n) = l.any (fun t => decide (t.name = n)) := by
 unfold qCM
 rw [has_setOf _ _ _ (fun y hy => by obtain ⟨_, _, rfl⟩ := List.mem_map.1 hy; trivial), List.any_map]
 congr 1
 funext t
 exact qHS _ _
theorem qD5 {l : List Sy} {len k : Nat} {E e : Int} (hk : k < l.length) (hE : E = qAj qO len (l.take k) (l.drop k)) (he : qCO qO len (l.take k) l[k] = e) (h0 : e ≠ 0) : E = e := by
 rw [hE, qEs hk, he, if_neg h0]
theorem qLU (l : List Sy) (len : Nat) (v : Value) (w : World) (hv : qAu w v l) (_hlen : len <= 8000) (hll : l.length <= 256) (hnl : ∀ s, s ∈ l -> s.name.length <= maxLen) :
  Calls Tryz.prog 47 #[v, .int .i64 (len : Int)] w fun e w' => e = .returned (.int .i64 (qAj qO len [] l)) /\ Below w.heap.size w w' := by
 obtain ⟨sad, scap, rfl, hsm, hsc⟩ := hv
 have HSC : Hid (0 < l.length -> ∃ b f, sad = some ⟨b, f, none⟩ /\ b < w.heap.size /\ ∀ i (h : i < l.length),
  w.cell? ⟨b, f + i * 2, none⟩ = some (.string ⟨l[i].name.toArray⟩) /\ w.cell? ⟨b, f + i * 2 + 1, none⟩ = some (.int .i64 l[i].pos)) := hsc
 clear hsc hsm
 have HNL := Lib.hid hnl
 clear hnl
 obtain ⟨E, hE⟩ : ∃ E, E = qAj qO len [] l := ⟨_, rfl⟩
 rw [<- hE]
 have HE0 := Lib.hid hE
 clear hE
 have hmm := @run_makeMap Tryz.prog
 go_enter Tryz.func47, Tryz.ntmps47
 go_wp2
 go_loopw [13] (fun i wr => ∃ (k : Nat), k <= l.length /\ i = .int .i64 k /\ Hid (Below w.heap.size w wr) /\ w.heap.size < wr.heap.size /\ wr.ownsMap Tryz.prog 9 unitElem w.heap.size k (qCM (l.take k)) /\ Hid (E = qAj qO len (l.take k) (l.drop k))) (fun i _ => l.length - (intOf i).toNat)
 case atStart => exact ⟨0, Nat.zero_le _, rfl, (Below.refl _ _).alloc (Nat.le_refl _) _, by simp, World.ownsMap_made _ _ _ _, HE0⟩
 case round =>
  obtain ⟨k, hk, rfl, HB, hws, hown, HE⟩ := hrel
  clear HE0
  by_cases hlt : k < l.length
  ·have hk1 : (k : Int) < l.length := by omega
   obtain ⟨b, f, rfl, hbl, hcell⟩ := HSC.out (by omega)
   obtain ⟨c0, c1⟩ := hcell k hlt
   rw [<- HB.out.cell (by exact hbl)] at c0 c1
   clear hcell
   obtain ⟨s, hs⟩ : ∃ s, s = l[k] := ⟨_, rfl⟩
   rw [<- hs] at c0 c1
   have HS := Lib.hid hs
   have hnlen : s.name.length <= maxLen := HNL.out s (hs ▸ List.getElem_mem hlt)
   clear hs
   have hkey : keyOf Tryz.prog 9 (.string ⟨s.name.toArray⟩) = some (.string s.name) := Go.WideMaps.keyOf_string_mk Tryz.underlying9 (s := ⟨s.name.toArray⟩) (by simpa [ByteArray.size] using hnlen)
   have hnm : ∀ W, Calls Tryz.prog 77 #[.string ⟨s.name.toArray⟩] W fun e w' => e = .returned (.bool (qO s.name)) /\ W = w' := fun W => qF9 ⟨s.name.toArray⟩ W
   have hhas := qHL (l.take k) s.name
   have HSN : Hid (qCM (l.take (k + 1)) = (qCM (l.take k)).put (.string s.name) (.agg [])) := by
    unfold Hid
    rw [List.take_succ_eq_append_getElem hlt, <- HS.out, qGU]
   obtain ⟨D, hD⟩ : ∃ D, D = qCM (l.take k) := ⟨_, rfl⟩
   rw [<- hD] at hown hhas
   have HD := Lib.hid hD
   clear hD hnlen
   have HBB : Hid (Below w.heap.size w ((wr.alloc (.cells #[.string ⟨s.name.toArray⟩, .int .i64 s.pos] 83)).alloc (.cells #[] 152))) := (HB.out.alloc HB.out.size _).alloc (by simp; omega) _
   cases hT : (l.take k).any (fun t => decide (t.name = s.name))
   ·rw [hT] at hhas
    cases hN : qO s.name
    ·have HX : Hid (E = 7) := qD5 hlt HE.out (by unfold qCO; rw [<- HS.out, if_pos hN]) (by decide)
     rw [hN] at hnm
     clear HE
     go_wp2_with (first | (at_lookup; refine wpList_lookup_own_unit _ rfl _ _ 151 rfl 9 152 lawS Tryz.underlying151 (qKN _) w.heap.size k _ rfl (hown.alloc _) _ _ rfl hkey ?_; rw [hhas]) | (go_at_call 77; refine (hnm _).mono ?_; rintro e w' ⟨rfl, rfl⟩) | go_in)
     go_ret
     exact ⟨qU HX.out.symm, HBB.out⟩
    ·rw [hN] at hnm
     by_cases hp0 : s.pos < 0
     ·have HX : Hid (E = 3) := qD5 hlt HE.out (by unfold qCO; rw [<- HS.out, if_neg (by rw [hN]; decide), if_neg (by rw [hT]; decide), if_pos (.inl hp0)]) (by decide)
      clear HE
      go_wp2_with (first | (at_lookup; refine wpList_lookup_own_unit _ rfl _ _ 151 rfl 9 152 lawS Tryz.underlying151 (qKN _) w.heap.size k _ rfl (hown.alloc _) _ _ rfl hkey ?_; rw [hhas]) | (go_at_call 77; refine (hnm _).mono ?_; rintro e w' ⟨rfl, rfl⟩) | go_in)
      go_ret
      exact ⟨qU HX.out.symm, HBB.out⟩
     ·by_cases hp1 : (len : Int) < s.pos
      ·have HX : Hid (E = 3) := qD5 hlt HE.out (by unfold qCO; rw [<- HS.out, if_neg (by rw [hN]; decide), if_neg (by rw [hT]; decide), if_pos (.inr hp1)]) (by decide)
       clear HE
       go_wp2_with (first | (at_lookup; refine wpList_lookup_own_unit _ rfl _ _ 151 rfl 9 152 lawS Tryz.underlying151 (qKN _) w.heap.size k _ rfl (hown.alloc _) _ _ rfl hkey ?_; rw [hhas]) | (go_at_call 77; refine (hnm _).mono ?_; rintro e w' ⟨rfl, rfl⟩) | go_in)
       go_ret
       exact ⟨qU HX.out.symm, HBB.out⟩
      ·have HX : Hid (E = qAj qO len (l.take (k + 1)) (l.drop (k + 1))) := by
        unfold Hid
        rw [HE.out, qEs hlt, if_pos]
        unfold qCO
        rw [<- HS.out, if_neg (by rw [hN]; decide), if_neg (by rw [hT]; decide), if_neg (by omega)]
       clear HE
       go_wp2_with (first | (at_lookup; refine wpList_lookup_own_unit _ rfl _ _ 151 rfl 9 152 lawS Tryz.underlying151 (qKN _) w.heap.size k _ rfl (hown.alloc _) _ _ rfl hkey ?_; rw [hhas]) | (go_at_call 77; refine (hnm _).mono ?_; rintro e w' ⟨rfl, rfl⟩) | (at_mapUpdate; refine wpList_mapUpdate_own _ rfl _ _ _ 151 rfl 9 152 lawS Tryz.underlying151 (unitElem (H := Unit)) w.heap.size k _ rfl ((hown.alloc _).alloc _) (by unfold maxLen; omega) _ _ _ rfl rfl hkey _ [] unitElem_mk ?_; intro w1 hown1 hgrow1) | go_in)
       have s1 := hgrow1.size
       simp at s1
       exact ⟨⟨k + 1, by omega, by go_num, HBB.out.grown hgrow1 (by simp; omega) (fun j hj => by cases hj; exact Nat.le_refl _), by omega, by rw [HSN.out, <- HD.out]; exact hown1, HX⟩, by simp [intOf]; omega⟩
   ·rw [hT] at hhas
    have HX : Hid (E = 7) := qD5 hlt HE.out (by
     unfold qCO
     rw [<- HS.out]
     split
     ·rfl
     ·first | rfl | rw [if_pos hT]) (by decide)
    clear HE
    go_wp2_with (first | (at_lookup; refine wpList_lookup_own_unit _ rfl _ _ 151 rfl 9 152 lawS Tryz.underlying151 (qKN _) w.heap.size k _ rfl (hown.alloc _) _ _ rfl hkey ?_; rw [hhas]) | (go_at_call 77; refine (hnm _).mono ?_; rintro e w' ⟨rfl, rfl⟩) | go_in)
    go_ret
    exact ⟨qU HX.out.symm, HBB.out⟩
  ·have hk1 : ¬ (k : Int) < l.length := by omega
   have HX : Hid (E = 0) := by unfold Hid; rw [HE.out, qHY (by omega)]
   clear HE
   go_wp2
   go_ret
   exact ⟨qU HX.out.symm, HB.out⟩
theorem qB2 (o : Ob) (cv sv rv : Value) (w : World) (hC : qg w cv o.code) (hS : qAu w sv o.syms) (hR : qC2 w rv o.rels) (hnl : ∀ s, s ∈ o.syms -> s.name.length <= maxLen) :
  Calls Tryz.prog 26 #[obV cv sv rv] w fun e w' => e = .returned (.int .i64 (qAD qO o)) /\ Below w.heap.size w w' := by
 have hS2 := fun (h1 : o.code.length <= 8000) (h2 : o.syms.length <= 256) (W : World) (hb : Below w.heap.size w W) => qLU o.syms o.code.length sv W (hS.below hb (Nat.le_refl _)) h1 h2 hnl
 have hR2 := fun (h1 : o.code.length <= 8000) (h2 : o.rels.length <= 16001) (W : World) (hb : Below w.heap.size w W) => qKr o.rels o.code.length rv W (hR.below hb (Nat.le_refl _)) h1 h2
 clear hnl
 obtain ⟨cad, ccap, rfl, hcm, z1⟩ := hC
 obtain ⟨sad, scap, rfl, hsm, z2⟩ := hS
 obtain ⟨rad, rcap, rfl, hrm, z3⟩ := hR
 clear z1 z2 z3
 unfold maxLen at hcm hsm hrm
 unfold obV
 by_cases h : 8000 < o.code.length \/ 255 < o.syms.length \/ 16000 < o.rels.length
 ·have HX : Hid (qAD qO o = 4) := by unfold Hid qAD; rw [if_pos h]
  clear hS2 hR2
  by_cases h1 : (8000 : Int) < o.code.length
  ·clear h
   go_enter Tryz.func26, Tryz.ntmps26
   go_wp2
   go_ret
   exact ⟨qU HX.out.symm, qD _ _⟩
  ·by_cases h2 : (255 : Int) < o.syms.length
   ·clear h
    go_enter Tryz.func26, Tryz.ntmps26
    go_wp2
    go_ret
    exact ⟨qU HX.out.symm, qD _ _⟩
   ·have h3 : (16000 : Int) < o.rels.length := by omega
    clear h
    go_enter Tryz.func26, Tryz.ntmps26
    go_wp2
    go_ret
    exact ⟨qU HX.out.symm, qD _ _⟩
 ·have HW : Hid (qAD qO o = if qAj qO o.code.length [] o.syms = 0 then qAx qO o.code.length 0 o.rels else qAj qO o.code.length [] o.syms) := by unfold Hid qAD; rw [if_neg h]
  have h1 : ¬ (8000 : Int) < o.code.length := by omega
  have h2 : ¬ (255 : Int) < o.syms.length := by omega
  have h3 : ¬ (16000 : Int) < o.rels.length := by omega
  have HS2 := Lib.hid (hS2 (by omega) (by omega))
  have HR2 := Lib.hid (hR2 (by omega) (by omega))
  clear h hS2 hR2
  generalize qAj qO o.code.length [] o.syms = es at *
  generalize qAx qO o.code.length 0 o.rels = er at *
  have HNX : Hid (∀ w2, Below (w.heap.size + 1) (w.alloc (.cells #[.slice cad o.code.length ccap, .slice sad o.syms.length scap, .slice rad o.rels.length rcap] 51)) w2 -> Below w.heap.size w w2 /\ w2.cell? ⟨w.heap.size, 0, none⟩ = some (.slice cad o.code.length ccap) /\ w2.cell? ⟨w.heap.size, 2, none⟩ = some (.slice rad o.rels.length rcap)) := fun w2 h2 =>
   ⟨(qD _ _).trans (h2.mono (by omega)), (h2.cell (by show w.heap.size < w.heap.size + 1; omega)).trans (by rw [World.cell?_alloc_new]; rfl), (h2.cell (by show w.heap.size < w.heap.size + 1; omega)).trans (by rw [World.cell?_alloc_new]; rfl)⟩
  by_cases h0 : es = 0
  ·subst h0
   have HX : Hid (qAD qO o = er) := by unfold Hid; rw [HW.out, if_pos rfl]
   clear HW
   go_enter Tryz.func26, Tryz.ntmps26
   go_wp2_with (first | (go_at_call 47; refine (HS2.out _ (qD _ _)).mono ?_; rintro e w2 ⟨rfl, hb2⟩; obtain ⟨hb3, y0, y1⟩ := HNX.out w2 (by simpa using hb2); have HB3 := Lib.hid hb3; clear hb2 hb3) | (go_at_call 48; refine (HR2.out _ HB3.out).mono ?_; rintro e w3 ⟨rfl, hb3⟩; have HB4 := Lib.hid (HB3.out.trans (hb3.mono HB3.out.size)); clear hb3))
   go_ret
   exact ⟨qU HX.out.symm, HB4.out⟩
  ·have HX : Hid (qAD qO o = es) := by unfold Hid; rw [HW.out, if_neg h0]
   have h0b : (es != 0) = true := bne_iff_ne.2 h0
   clear h0 HW
   go_enter Tryz.func26, Tryz.ntmps26
   go_wp2_with (go_at_call 47; refine (HS2.out _ (qD _ _)).mono ?_; rintro e w2 ⟨rfl, hb2⟩; obtain ⟨hb3, y0, y1⟩ := HNX.out w2 (by simpa using hb2); have HB3 := Lib.hid hb3; clear hb2 hb3)
   go_ret
   exact ⟨qU HX.out.symm, HB3.out⟩
end Go.Proofs.YtfmljailbebfgaaGreatDoor.Li
namespace Go.Proofs.YtfmljailbebfgaaGreatDoor.Si
open Go.RowKit Isa
structure Ma where
 r : Nat -> Int
 t : Bool
 pc : Int
 pr : Int
 base : Int
 by' : List UInt8
 told : List Int
 st : Int
def bsOf (l : List UInt8) (i : Nat) : Int := ((l.getD i 0).toNat : Int)
theorem qDL (l : List UInt8) : qIR (bsOf l) := fun i => by
 have := (l.getD i 0).toNat_lt
 unfold bsOf; omega
def hasB (m : Ma) (a size : Int) : Bool := decide (m.base <= a) && (decide (a % size = 0) && decide (a + size <= m.base + m.by'.length))
def qBc (m : Ma) (a : Int) : Int := qBF (bsOf m.by') m.by'.length (a - m.base) 2
def qe (m : Ma) (a : Int) : Int := if hasB m a 2 = true then decE (qBc m a) else 6
def qAX (op : Int) : Bool := decide (op = 2) || (decide (17 <= op) && decide (op <= 22))
def mC (m : Ma) (ba : Option Addr) (bc : Nat) (sv : Value) (ta : Option Addr) (tc : Nat) : Array Value := #[.int .i64 (m.r 0), .int .i64 (m.r 1), .int .i64 (m.r 2), .int .i64 (m.r 3), .int .i64 (m.r 4), .int .i64 (m.r 5), .int .i64 (m.r 6), .int .i64 (m.r 7), .int .i64 (m.r 8), .int .i64 (m.r 9), .int .i64 (m.r 10), .int .i64 (m.r 11), .int .i64 (m.r 12), .int .i64 (m.r 13), .int .i64 (m.r 14), .int .i64 (m.r 15), .bool m.t, .int .i64 m.pc, .int .i64 m.pr, .int .i64 m.base, .slice ba m.by'.length bc, sv, .slice ta m.told.length tc, .int .i64 m.st]
theorem qFn {m : Ma} {a size : Int} (h : hasB m a size = true) : m.base <= a /\ a % size = 0 /\ a + size <= m.base + m.by'.length := by
 unfold hasB at h
 simpa using h
def BRd (w : World) (ba : Option Addr) (l : List UInt8) : Prop := 0 < l.length -> ∃ b off, ba = some ⟨b, off, none⟩ /\ b < w.heap.size /\ ∀ i, i < l.length -> w.cell? ⟨b, off + i, none⟩ = some (.int .u8 (bsOf l i))
theorem BRd.next {w w' : World} {ba : Option Addr} {l : List UInt8} (h : BRd w ba l) (hb : Below w.heap.size w w') : BRd w' ba l := fun h0 => by
 obtain ⟨b, off, e, hl, hc⟩ := h h0
 exact ⟨b, off, e, Nat.lt_of_lt_of_le hl hb.size, fun i hi => (hb.cell (p := ⟨b, off + i, none⟩) hl).trans (hc i hi)⟩
theorem qE {w : World} {b i : Nat} {c : Array Value} {t : TypeId} (h : w.heap[b]? = some (.cells c t (0, 0))) : w.frozen? ⟨b, i, none⟩ = false := by
 unfold World.frozen?
 simp only [h]
 simp
theorem qJ (w : World) (c : Array Value) (t : TypeId) : (w.alloc (.cells c t)).heap[w.heap.size]? = some (.cells c t (0, 0)) := by
 unfold World.alloc
 simp only [Array.getElem?_push_size]
theorem four {w W : World} {B : Nat} (h : Below B w W) {b : Nat} (hb : B <= b) (x0 x1 x2 x3 : Value) : Below B w ((((W.setCell ⟨b, 0, none⟩ x0).setCell ⟨b, 1, none⟩ x1).setCell ⟨b, 2, none⟩ x2).setCell ⟨b, 3, none⟩ x3) :=
 (((h.setCell hb _).setCell hb _).setCell hb _).setCell hb _
def fV (m : Ma) (a : Int) (i : Nat) : Int := if hasB m a 2 = true then dV (qBc m a) i else 0
theorem qJs (m : Ma) (a : Int) : 0 <= fV m a 1 /\ fV m a 1 <= 15 /\ 0 <= fV m a 2 /\ fV m a 2 <= 15 /\ -10000 <= fV m a 3 /\ fV m a 3 <= 10000 := by
 unfold fV
 obtain ⟨_, h⟩ := dV_all (qBc m a)
 split
 ·exact h
 ·omega
theorem qBr (m : Ma) (ba : Option Addr) (bc : Nat) (sv : Value) (ta : Option Addr) (tc : Nat) : (Tryz.prog.info? 43).map (·.size) = some (mC m ba bc sv ta tc).size := by kernel_rfl
def newM (base : Int) (l : List UInt8) : Ma := ⟨fun _ => 0, false, base, -1, base, l, [], 0⟩
end Go.Proofs.YtfmljailbebfgaaGreatDoor.Si
