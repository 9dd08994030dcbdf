import Derived.Test.YtgjmbjahgcndnaaGreatDoorPut10
import Derived.Maps.OwnSet
import Derived.Test.YtgjmbjahgcndnaaGreatDoorPut11
import Derived.Laws.BitsLemmas
set_option maxHeartbeats 8000000
set_option maxRecDepth 100000
namespace Go.Proofs.YtgjmbjahgcndnaaGreatDoor.Li
open Go.RowKit Go.Maps
theorem qGL (s : ByteArray) (w : World) :
  Calls Tryz.prog 75 #[.string s] w fun e w' => e = .returned (.bool (qL s.data.toList)) /\ w = w' :=
 (qCg s w).mono fun _ _ h => ⟨h.1, h.2.symm⟩
theorem qED (n : Int) (w : World) :
  Calls Tryz.prog 58 #[.int .i64 n] w fun e w' => e = .returned (.int .i64 (wrap32 n)) /\ w' = w :=
 (Oi.qBC n w).mono fun _ _ h => ⟨h.1.trans (qR (by unfold wrap32 wrap64; omega)), h.2⟩
def relV (r : Re) : Value := .agg #[.int .i64 r.pos, .int .i64 r.size, .string ⟨r.name.toArray⟩, .int .i64 r.add]
theorem wrel_any (r : Re) (last : Int) (len : Nat) (w : World) (hl0 : 0 <= last) (hlen : len <= 8000) :
  Calls Tryz.prog 76 #[relV r, .int .i64 last, .int .i64 (len : Int)] w fun e w' => e = .returned (.int .i64 (qBA qL len last r)) /\ Below w.heap.size w w' := by
 obtain ⟨rp, rz, rn, ra⟩ := r
 unfold relV
 simp only
 have hnm : ∀ W, Calls Tryz.prog 75 #[.string ⟨rn.toArray⟩] W fun e w' => e = .returned (.bool (qL rn)) /\ W = w' := fun W => qGL ⟨rn.toArray⟩ W
 obtain ⟨E, hE⟩ : ∃ E, E = qBA qL len last ⟨rp, rz, rn, ra⟩ := ⟨_, rfl⟩
 rw [<- hE]
 have HE := Lib.hid hE
 clear hE
 by_cases hz24 : rz ≠ 2 /\ rz ≠ 4
 ·have e2 : (rz != 2) = true := by simpa using hz24.1
  have e4 : (rz != 4) = true := by simpa using hz24.2
  have HX : Hid (E = 1) := by unfold Hid; rw [HE.out]; unfold qBA; rw [if_pos hz24]
  clear hz24
  go_enter Tryz.func76, Tryz.ntmps76
  go_wp2
  go_ret
  exact ⟨qR HX.out.symm, qE _ _⟩
 ·have hzz : rz = 2 \/ rz = 4 := by omega
  clear hz24
  by_cases hp : rp < last \/ (len : Int) - rz < rp
  ·have HX : Hid (E = 3) := by unfold Hid; rw [HE.out]; unfold qBA; rw [if_neg (by simp only; omega), if_pos (by simp only; omega)]
   rcases hzz with rfl | rfl
   all_goals
    by_cases hp1 : rp < last
    ·clear hp
     go_enter Tryz.func76, Tryz.ntmps76
     go_wp2
     go_ret
     exact ⟨qR HX.out.symm, qE _ _⟩
    ·have hp2 := hp.resolve_left hp1
     clear hp
     go_enter Tryz.func76, Tryz.ntmps76
     go_wp2
     go_ret
     exact ⟨qR HX.out.symm, qE _ _⟩
  ·have hp1 : ¬ rp < last := fun h => hp (.inl h)
   have hp2 : ¬ (len : Int) - rz < rp := fun h => hp (.inr h)
   have hrp : 0 <= rp := by omega
   have hpp : ¬ (rp < last \/ 8000 < rp \/ (len : Int) < rp + rz) := by omega
   clear hp
   by_cases hal : rp % rz = 0
   ·by_cases hn : rn ≠ [] /\ qL rn = false
    ·have HX : Hid (E = 7) := by unfold Hid; rw [HE.out]; unfold qBA; rw [if_neg (by simp only; omega), if_neg hpp, if_neg (by simpa using hal), if_pos hn]
     have n1 : (rn == []) = false := by simpa using hn.1
     rw [hn.2] at hnm
     clear hn hpp
     rcases hzz with rfl | rfl
     all_goals
      have hal2 : (rp % _ != 0) = false := bne_eq_false_iff_eq.2 hal
      go_enter Tryz.func76, Tryz.ntmps76
      go_wp2_with (go_at_call 75; refine (hnm _).mono ?_; rintro e w' ⟨rfl, rfl⟩)
      go_ret
      exact ⟨qR HX.out.symm, qE _ _⟩
    ·have HN0 : Hid (ra = wrap32 ra -> E = 0) := fun ha => by
      rw [HE.out]; unfold qBA; rw [if_neg (by simp only; omega), if_neg hpp, if_neg (by simpa using hal), if_neg hn, if_neg (by simpa using ha)]
     have HN3 : Hid (ra ≠ wrap32 ra -> E = 3) := fun ha => by
      rw [HE.out]; unfold qBA; rw [if_neg (by simp only; omega), if_neg hpp, if_neg (by simpa using hal), if_neg hn, if_pos ha]
     have HQ : Hid (∀ wy, Below (w.heap.size + 1) (w.alloc (.cells #[.int .i64 rp, .int .i64 rz, .string ⟨rn.toArray⟩, .int .i64 ra] 120)) wy -> Below w.heap.size w wy) := fun wy hby => (qE _ _).trans (hby.mono (Nat.le_succ _))
     clear hpp
     by_cases hn0 : rn = []
     ·have n1 : (rn == []) = true := by simpa using hn0
      clear hn hn0 hnm
      rcases hzz with rfl | rfl
      all_goals
       have hal2 : (rp % _ != 0) = false := bne_eq_false_iff_eq.2 hal
       go_enter Tryz.func76, Tryz.ntmps76
       go_wp2
       go_quiet ((go_at_call 58; exact Calls.quiet_of_same (qED _ _)))
       generalize hwy : World.drewN _ _ = wy
       have HKY := Lib.hid (HQ.out wy (by subst hwy; exact Go.Joins.below_draws _ _ _))
       clear hwy HQ
       by_cases ha : ra = wrap32 ra
       ·have ha2 : (ra != wrap32 ra) = false := bne_eq_false_iff_eq.2 ha
        have HX := Lib.hid (HN0.out ha)
        clear ha
        go_wp2
        go_ret
        exact ⟨qR HX.out.symm, HKY.out⟩
       ·have ha2 : (ra != wrap32 ra) = true := bne_iff_ne.2 ha
        have HX := Lib.hid (HN3.out ha)
        clear ha
        go_wp2
        go_ret
        exact ⟨qR HX.out.symm, HKY.out⟩
     ·have n1 : (rn == []) = false := by simpa using hn0
      have n2 : qL rn = true := by
       cases h : qL rn
       ·exact absurd ⟨hn0, h⟩ hn
       ·rfl
      rw [n2] at hnm
      clear hn hn0 n2
      rcases hzz with rfl | rfl
      all_goals
       have hal2 : (rp % _ != 0) = false := bne_eq_false_iff_eq.2 hal
       go_enter Tryz.func76, Tryz.ntmps76
       go_wp2_with (go_at_call 75; refine (hnm _).mono ?_; rintro e w' ⟨rfl, rfl⟩)
       go_quiet ((go_at_call 58; exact Calls.quiet_of_same (qED _ _)))
       generalize hwy : World.drewN _ _ = wy
       have HKY := Lib.hid (HQ.out wy (by subst hwy; exact Go.Joins.below_draws _ _ _))
       clear hwy HQ
       by_cases ha : ra = wrap32 ra
       ·have ha2 : (ra != wrap32 ra) = false := bne_eq_false_iff_eq.2 ha
        have HX := Lib.hid (HN0.out ha)
        clear ha
        go_wp2
        go_ret
        exact ⟨qR HX.out.symm, HKY.out⟩
       ·have ha2 : (ra != wrap32 ra) = true := bne_iff_ne.2 ha
        have HX := Lib.hid (HN3.out ha)
        clear ha
        go_wp2
        go_ret
        exact ⟨qR HX.out.symm, HKY.out⟩
   ·have HX : Hid (E = 11) := by unfold Hid; rw [HE.out]; unfold qBA; rw [if_neg (by simp only; omega), if_neg hpp, if_pos hal]
    clear hpp
    rcases hzz with rfl | rfl
    all_goals
     have hal2 : (rp % _ != 0) = true := bne_iff_ne.2 hal
     go_enter Tryz.func76, Tryz.ntmps76
     go_wp2
     go_ret
     exact ⟨qR HX.out.symm, qE _ _⟩
theorem qKB (l : List Re) (len : Nat) (v : Value) (w : World) (hv : qDG w v l) (hlen : len <= 8000) (hll : l.length <= 16001) :
  Calls Tryz.prog 46 #[v, .int .i64 (len : Int)] w fun e w' => e = .returned (.int .i64 (qAs qL len 0 l)) /\ Below w.heap.size w w' := by
 obtain ⟨rad, rcap, rfl, hrm, hrc⟩ := hv
 have HRC : Hid (0 < l.length -> ∃ b f, rad = some ⟨b, f, none⟩ /\ b < w.heap.size /\ ∀ i (h : i < l.length),
  w.cell? ⟨b, f + i * 4, none⟩ = some (.int .i64 l[i].pos) /\ w.cell? ⟨b, f + i * 4 + 1, none⟩ = some (.int .i64 l[i].size) /\
  w.cell? ⟨b, f + i * 4 + 2, none⟩ = some (.string ⟨l[i].name.toArray⟩) /\ w.cell? ⟨b, f + i * 4 + 3, none⟩ = some (.int .i64 l[i].add)) := hrc
 clear hrc hrm
 obtain ⟨E, hE⟩ : ∃ E, E = qAs qL len 0 l := ⟨_, rfl⟩
 rw [<- hE]
 have HE0 := Lib.hid hE
 clear hE
 go_enter Tryz.func46, Tryz.ntmps46
 go_wp2
 go_loopw [5, 11] (fun fr i wr => ∃ (k : Nat) (last : Int), k <= l.length /\ i = .int .i64 k /\ fr = .int .i64 last /\ 0 <= last /\ last <= 8004 /\ Below w.heap.size w wr /\ Hid (E = qAs qL len last (l.drop k))) (fun _ i _ => l.length - (intOf i).toNat)
 case atStart => exact ⟨0, 0, Nat.zero_le _, rfl, rfl, by decide, by decide, Below.refl _ _, HE0⟩
 case round =>
  obtain ⟨k, last, hk, rfl, rfl, hl0, hl1, hbel, HE⟩ := hrel
  clear HE0
  by_cases hlt : k < l.length
  ·have hk1 : (k : Int) < l.length := by omega
   obtain ⟨b, f, rfl, hbl, hcell⟩ := HRC.out (by omega)
   obtain ⟨c0, c1, c2, c3⟩ := hcell k hlt
   rw [<- hbel.cell (by exact hbl)] at c0 c1 c2 c3
   have HAT := Lib.hid (qI1 (nm := qL) (len := len) (last := last) hlt)
   clear hcell
   have HB := Lib.hid hbel
   have hsz := hbel.size
   clear hbel
   generalize l[k] = r at *
   have hcall := fun W => wrel_any r last len W hl0 hlen
   have HOKB : Hid (qBA qL len last r = 0 -> 0 <= r.pos /\ r.pos <= 8000 /\ (r.size = 2 \/ r.size = 4)) := fun h => by
    have h1 := qLR h
    exact ⟨by omega, h1.2.2.1, h1.1⟩
   obtain ⟨rp, rz, rn, ra⟩ := r
   simp only [relV] at c0 c1 c2 c3 hcall
   obtain ⟨e0, he0⟩ : ∃ e0, e0 = qBA qL len last ⟨rp, rz, rn, ra⟩ := ⟨_, rfl⟩
   rw [<- he0] at hcall
   have HAT2 : Hid (E = if e0 = 0 then qAs qL len (rp + rz) (l.drop (k + 1)) else e0) := by unfold Hid; rw [he0, HE.out, HAT.out]
   have HOK2 : Hid (e0 = 0 -> 0 <= rp /\ rp <= 8000 /\ (rz = 2 \/ rz = 4)) := fun h => HOKB.out (he0 ▸ h)
   clear HAT HE HOKB he0
   have hba := Lib.hid (qE wr (.cells #[.int .i64 rp, .int .i64 rz, .string ⟨rn.toArray⟩, .int .i64 ra] 120))
   by_cases h0 : e0 = 0
   ·subst h0
    obtain ⟨q0, q1, q2⟩ := HOK2.out rfl
    have HX : Hid (E = qAs qL len (rp + rz) (l.drop (k + 1))) := by unfold Hid; rw [HAT2.out, if_pos rfl]
    clear HAT2 HOK2
    have hbig : rp + rz <= 8004 := by omega
    have hbig0 : 0 <= rp + rz := by omega
    clear q0 q1 q2
    have HNX : Hid (∀ w2, Below (wr.heap.size + 1) (wr.alloc (.cells #[.int .i64 rp, .int .i64 rz, .string ⟨rn.toArray⟩, .int .i64 ra] 120)) w2 -> Below w.heap.size w w2 /\ w2.cell? ⟨wr.heap.size, 0, none⟩ = some (.int .i64 rp) /\ w2.cell? ⟨wr.heap.size, 1, none⟩ = some (.int .i64 rz)) := fun w2 h2 =>
     ⟨(HB.out.trans (hba.out.mono hsz)).trans (h2.mono (by omega)), (h2.cell (by show wr.heap.size < wr.heap.size + 1; omega)).trans (by rw [World.cell?_alloc_new]; rfl), (h2.cell (by show wr.heap.size < wr.heap.size + 1; omega)).trans (by rw [World.cell?_alloc_new]; rfl)⟩
    go_wp2_with (go_at_call 76; refine (hcall _).mono ?_; rintro e w2 ⟨rfl, hb2⟩; obtain ⟨hb3, y0, y1⟩ := HNX.out w2 (by simpa using hb2); have HB3 := Lib.hid hb3; clear hb2 hb3)
    exact ⟨⟨k + 1, _, by omega, by go_num, by go_num, by omega, by omega, HB3.out, HX⟩, by simp [intOf]; omega⟩
   ·have HX : Hid (E = e0) := by unfold Hid; rw [HAT2.out, if_neg h0]
    have h0b : (e0 != 0) = true := bne_iff_ne.2 h0
    clear h0 HAT2 HOK2
    have HNX : Hid (∀ w2, Below (wr.heap.size + 1) (wr.alloc (.cells #[.int .i64 rp, .int .i64 rz, .string ⟨rn.toArray⟩, .int .i64 ra] 120)) w2 -> Below w.heap.size w w2) := fun w2 h2 =>
     (HB.out.trans (hba.out.mono hsz)).trans (h2.mono (by omega))
    go_wp2_with (go_at_call 76; refine (hcall _).mono ?_; rintro e w2 ⟨rfl, hb2⟩; have HB3 := Lib.hid (HNX.out w2 (by simpa using hb2)); clear hb2)
    go_ret
    exact ⟨qR HX.out.symm, HB3.out⟩
  ·have hk1 : ¬ (k : Int) < l.length := by omega
   have HX : Hid (E = 0) := by unfold Hid; rw [HE.out, qGg (by omega)]
   clear HE
   go_wp2
   go_ret
   exact ⟨qR HX.out.symm, hbel⟩
end Go.Proofs.YtgjmbjahgcndnaaGreatDoor.Li
namespace Go.Proofs.YtgjmbjahgcndnaaGreatDoor.Li
open Go.RowKit Go.Maps Go.MapKept
theorem lawS : Keyed Tryz.prog 9 := string_keyed Tryz.underlying9
theorem qKU (w : World) : (zeroValue 150).run Tryz.prog w = .ok (.agg #[]) w := by kernel_rfl
def qB0 (l : List Sy) : DataW Unit := setOf (.agg []) (l.map fun s => Lit.string s.name)
theorem qFq (l : List Sy) (s : Sy) : qB0 (l ++ [s]) = (qB0 l).put (.string s.name) (.agg []) := by
 unfold qB0
 rw [List.map_append, List.map_singleton, setOf_snoc]
theorem qGu (a b : List UInt8) : (Lit.string a).sameKey (.string b) = decide (a = b) := by
 by_cases h : a = b
 ·subst h
  rw [WideAt.sameKey_self (by trivial)]
  simp
 ·rw [sameKey_ne (fun e => h (by injection e))]
  simp [h]
theorem qHA (l : List Sy) (n : List UInt8) : Maps.has (qB0 l) (.string n) = l.any (fun t => decide (t.name = n)) := by
 unfold qB0
 rw [has_setOf _ _ _ (fun y hy => by obtain ⟨_, _, rfl⟩ := List.mem_map.1 hy; trivial), List.any_map]
 congr 1
 funext t
 exact qGu _ _
theorem qDm {l : List Sy} {len k : Nat} {E e : Int} (hk : k < l.length) (hE : E = qAR qL len (l.take k) (l.drop k)) (he : qB8 qL len (l.take k) l[k] = e) (h0 : e ≠ 0) : E = e := by
 rw [hE, qEk hk, he, if_neg h0]
theorem qLj (l : List Sy) (len : Nat) (v : Value) (w : World) (hv : qAw w v l) (_hlen : len <= 8000) (hll : l.length <= 256) (hnl : ∀ s, s ∈ l -> s.name.length <= maxLen) :
  Calls Tryz.prog 45 #[v, .int .i64 (len : Int)] w fun e w' => e = .returned (.int .i64 (qAR qL len [] l)) /\ Below w.heap.size w w' := by
 obtain ⟨sad, scap, rfl, hsm, hsc⟩ := hv
 have HSC : Hid (0 < l.length -> ∃ b f, sad = some ⟨b, f, none⟩ /\ b < w.heap.size /\ ∀ i (h : i < l.length),
  w.cell? ⟨b, f + i * 2, none⟩ = some (.string ⟨l[i].name.toArray⟩) /\ w.cell? ⟨b, f + i * 2 + 1, none⟩ = some (.int .i64 l[i].pos)) := hsc
 clear hsc hsm
 have HNL := Lib.hid hnl
 clear hnl
 obtain ⟨E, hE⟩ : ∃ E, E = qAR qL len [] l := ⟨_, rfl⟩
 rw [<- hE]
 have HE0 := Lib.hid hE
 clear hE
 have hmm := @run_makeMap Tryz.prog
 go_enter Tryz.func45, Tryz.ntmps45
 go_wp2
 go_loopw [13] (fun i wr => ∃ (k : Nat), k <= l.length /\ i = .int .i64 k /\ Hid (Below w.heap.size w wr) /\ w.heap.size < wr.heap.size /\ wr.ownsMap Tryz.prog 9 unitElem w.heap.size k (qB0 (l.take k)) /\ Hid (E = qAR qL len (l.take k) (l.drop k))) (fun i _ => l.length - (intOf i).toNat)
 case atStart => exact ⟨0, Nat.zero_le _, rfl, (Below.refl _ _).alloc (Nat.le_refl _) _, by simp, World.ownsMap_made _ _ _ _, HE0⟩
 case round =>
  obtain ⟨k, hk, rfl, HB, hws, hown, HE⟩ := hrel
  clear HE0
  by_cases hlt : k < l.length
  ·have hk1 : (k : Int) < l.length := by omega
   obtain ⟨b, f, rfl, hbl, hcell⟩ := HSC.out (by omega)
   obtain ⟨c0, c1⟩ := hcell k hlt
   rw [<- HB.out.cell (by exact hbl)] at c0 c1
   clear hcell
   obtain ⟨s, hs⟩ : ∃ s, s = l[k] := ⟨_, rfl⟩
   rw [<- hs] at c0 c1
   have HS := Lib.hid hs
   have hnlen : s.name.length <= maxLen := HNL.out s (hs ▸ List.getElem_mem hlt)
   clear hs
   have hkey : keyOf Tryz.prog 9 (.string ⟨s.name.toArray⟩) = some (.string s.name) := Go.WideMaps.keyOf_string_mk Tryz.underlying9 (s := ⟨s.name.toArray⟩) (by simpa [ByteArray.size] using hnlen)
   have hnm : ∀ W, Calls Tryz.prog 75 #[.string ⟨s.name.toArray⟩] W fun e w' => e = .returned (.bool (qL s.name)) /\ W = w' := fun W => qGL ⟨s.name.toArray⟩ W
   have hhas := qHA (l.take k) s.name
   have HSN : Hid (qB0 (l.take (k + 1)) = (qB0 (l.take k)).put (.string s.name) (.agg [])) := by
    unfold Hid
    rw [List.take_succ_eq_append_getElem hlt, <- HS.out, qFq]
   obtain ⟨D, hD⟩ : ∃ D, D = qB0 (l.take k) := ⟨_, rfl⟩
   rw [<- hD] at hown hhas
   have HD := Lib.hid hD
   clear hD hnlen
   have HBB : Hid (Below w.heap.size w ((wr.alloc (.cells #[.string ⟨s.name.toArray⟩, .int .i64 s.pos] 81)).alloc (.cells #[] 150))) := (HB.out.alloc HB.out.size _).alloc (by simp; omega) _
   cases hT : (l.take k).any (fun t => decide (t.name = s.name))
   ·rw [hT] at hhas
    cases hN : qL s.name
    ·have HX : Hid (E = 7) := qDm hlt HE.out (by unfold qB8; rw [<- HS.out, if_pos hN]) (by decide)
     rw [hN] at hnm
     clear HE
     go_wp2_with (first | (at_lookup; refine wpList_lookup_own_unit _ rfl _ _ 149 rfl 9 150 lawS Tryz.underlying149 (qKU _) w.heap.size k _ rfl (hown.alloc _) _ _ rfl hkey ?_; rw [hhas]) | (go_at_call 75; refine (hnm _).mono ?_; rintro e w' ⟨rfl, rfl⟩) | go_in)
     go_ret
     exact ⟨qR HX.out.symm, HBB.out⟩
    ·rw [hN] at hnm
     by_cases hp0 : s.pos < 0
     ·have HX : Hid (E = 3) := qDm hlt HE.out (by unfold qB8; rw [<- HS.out, if_neg (by rw [hN]; decide), if_neg (by rw [hT]; decide), if_pos (.inl hp0)]) (by decide)
      clear HE
      go_wp2_with (first | (at_lookup; refine wpList_lookup_own_unit _ rfl _ _ 149 rfl 9 150 lawS Tryz.underlying149 (qKU _) w.heap.size k _ rfl (hown.alloc _) _ _ rfl hkey ?_; rw [hhas]) | (go_at_call 75; refine (hnm _).mono ?_; rintro e w' ⟨rfl, rfl⟩) | go_in)
      go_ret
      exact ⟨qR HX.out.symm, HBB.out⟩
     ·by_cases hp1 : (len : Int) < s.pos
      ·have HX : Hid (E = 3) := qDm hlt HE.out (by unfold qB8; rw [<- HS.out, if_neg (by rw [hN]; decide), if_neg (by rw [hT]; decide), if_pos (.inr hp1)]) (by decide)
       clear HE
       go_wp2_with (first | (at_lookup; refine wpList_lookup_own_unit _ rfl _ _ 149 rfl 9 150 lawS Tryz.underlying149 (qKU _) w.heap.size k _ rfl (hown.alloc _) _ _ rfl hkey ?_; rw [hhas]) | (go_at_call 75; refine (hnm _).mono ?_; rintro e w' ⟨rfl, rfl⟩) | go_in)
       go_ret
       exact ⟨qR HX.out.symm, HBB.out⟩
      ·have HX : Hid (E = qAR qL len (l.take (k + 1)) (l.drop (k + 1))) := by
        unfold Hid
        rw [HE.out, qEk hlt, if_pos]
        unfold qB8
        rw [<- HS.out, if_neg (by rw [hN]; decide), if_neg (by rw [hT]; decide), if_neg (by omega)]
       clear HE
       go_wp2_with (first | (at_lookup; refine wpList_lookup_own_unit _ rfl _ _ 149 rfl 9 150 lawS Tryz.underlying149 (qKU _) w.heap.size k _ rfl (hown.alloc _) _ _ rfl hkey ?_; rw [hhas]) | (go_at_call 75; refine (hnm _).mono ?_; rintro e w' ⟨rfl, rfl⟩) | (at_mapUpdate; refine wpList_mapUpdate_own _ rfl _ _ _ 149 rfl 9 150 lawS Tryz.underlying149 (unitElem (H := Unit)) w.heap.size k _ rfl ((hown.alloc _).alloc _) (by unfold maxLen; omega) _ _ _ rfl rfl hkey _ [] unitElem_mk ?_; intro w1 hown1 hgrow1) | go_in)
       have s1 := hgrow1.size
       simp at s1
       exact ⟨⟨k + 1, by omega, by go_num, HBB.out.grown hgrow1 (by simp; omega) (fun j hj => by cases hj; exact Nat.le_refl _), by omega, by rw [HSN.out, <- HD.out]; exact hown1, HX⟩, by simp [intOf]; omega⟩
   ·rw [hT] at hhas
    have HX : Hid (E = 7) := qDm hlt HE.out (by
     unfold qB8
     rw [<- HS.out]
     split
     ·rfl
     ·first | rfl | rw [if_pos hT]) (by decide)
    clear HE
    go_wp2_with (first | (at_lookup; refine wpList_lookup_own_unit _ rfl _ _ 149 rfl 9 150 lawS Tryz.underlying149 (qKU _) w.heap.size k _ rfl (hown.alloc _) _ _ rfl hkey ?_; rw [hhas]) | (go_at_call 75; refine (hnm _).mono ?_; rintro e w' ⟨rfl, rfl⟩) | go_in)
    go_ret
    exact ⟨qR HX.out.symm, HBB.out⟩
  ·have hk1 : ¬ (k : Int) < l.length := by omega
   have HX : Hid (E = 0) := by unfold Hid; rw [HE.out, qGU (by omega)]
   clear HE
   go_wp2
   go_ret
   exact ⟨qR HX.out.symm, HB.out⟩
theorem qBp (o : Ob) (cv sv rv : Value) (w : World) (hC : qg w cv o.code) (hS : qAw w sv o.syms) (hR : qDG w rv o.rels) (hnl : ∀ s, s ∈ o.syms -> s.name.length <= maxLen) :
  Calls Tryz.prog 24 #[obV cv sv rv] w fun e w' => e = .returned (.int .i64 (qAD qL o)) /\ Below w.heap.size w w' := by
 have hS2 := fun (h1 : o.code.length <= 8000) (h2 : o.syms.length <= 256) (W : World) (hb : Below w.heap.size w W) => qLj o.syms o.code.length sv W (hS.below hb (Nat.le_refl _)) h1 h2 hnl
 have hR2 := fun (h1 : o.code.length <= 8000) (h2 : o.rels.length <= 16001) (W : World) (hb : Below w.heap.size w W) => qKB o.rels o.code.length rv W (hR.below hb (Nat.le_refl _)) h1 h2
 clear hnl
 obtain ⟨cad, ccap, rfl, hcm, z1⟩ := hC
 obtain ⟨sad, scap, rfl, hsm, z2⟩ := hS
 obtain ⟨rad, rcap, rfl, hrm, z3⟩ := hR
 clear z1 z2 z3
 unfold maxLen at hcm hsm hrm
 unfold obV
 by_cases h : 8000 < o.code.length \/ 255 < o.syms.length \/ 16000 < o.rels.length
 ·have HX : Hid (qAD qL o = 4) := by unfold Hid qAD; rw [if_pos h]
  clear hS2 hR2
  by_cases h1 : (8000 : Int) < o.code.length
  ·clear h
   go_enter Tryz.func24, Tryz.ntmps24
   go_wp2
   go_ret
   exact ⟨qR HX.out.symm, qE _ _⟩
  ·by_cases h2 : (255 : Int) < o.syms.length
   ·clear h
    go_enter Tryz.func24, Tryz.ntmps24
    go_wp2
    go_ret
    exact ⟨qR HX.out.symm, qE _ _⟩
   ·have h3 : (16000 : Int) < o.rels.length := by omega
    clear h
    go_enter Tryz.func24, Tryz.ntmps24
    go_wp2
    go_ret
    exact ⟨qR HX.out.symm, qE _ _⟩
 ·have HW : Hid (qAD qL o = if qAR qL o.code.length [] o.syms = 0 then qAs qL o.code.length 0 o.rels else qAR qL o.code.length [] o.syms) := by unfold Hid qAD; rw [if_neg h]
  have h1 : ¬ (8000 : Int) < o.code.length := by omega
  have h2 : ¬ (255 : Int) < o.syms.length := by omega
  have h3 : ¬ (16000 : Int) < o.rels.length := by omega
  have HS2 := Lib.hid (hS2 (by omega) (by omega))
  have HR2 := Lib.hid (hR2 (by omega) (by omega))
  clear h hS2 hR2
  generalize qAR qL o.code.length [] o.syms = es at *
  generalize qAs qL o.code.length 0 o.rels = er at *
  have HNX : Hid (∀ w2, Below (w.heap.size + 1) (w.alloc (.cells #[.slice cad o.code.length ccap, .slice sad o.syms.length scap, .slice rad o.rels.length rcap] 49)) w2 -> Below w.heap.size w w2 /\ w2.cell? ⟨w.heap.size, 0, none⟩ = some (.slice cad o.code.length ccap) /\ w2.cell? ⟨w.heap.size, 2, none⟩ = some (.slice rad o.rels.length rcap)) := fun w2 h2 =>
   ⟨(qE _ _).trans (h2.mono (by omega)), (h2.cell (by show w.heap.size < w.heap.size + 1; omega)).trans (by rw [World.cell?_alloc_new]; rfl), (h2.cell (by show w.heap.size < w.heap.size + 1; omega)).trans (by rw [World.cell?_alloc_new]; rfl)⟩
  by_cases h0 : es = 0
  ·subst h0
   have HX : Hid (qAD qL o = er) := by unfold Hid; rw [HW.out, if_pos rfl]
   clear HW
   go_enter Tryz.func24, Tryz.ntmps24
   go_wp2_with (first | (go_at_call 45; refine (HS2.out _ (qE _ _)).mono ?_; rintro e w2 ⟨rfl, hb2⟩; obtain ⟨hb3, y0, y1⟩ := HNX.out w2 (by simpa using hb2); have HB3 := Lib.hid hb3; clear hb2 hb3) | (go_at_call 46; refine (HR2.out _ HB3.out).mono ?_; rintro e w3 ⟨rfl, hb3⟩; have HB4 := Lib.hid (HB3.out.trans (hb3.mono HB3.out.size)); clear hb3))
   go_ret
   exact ⟨qR HX.out.symm, HB4.out⟩
  ·have HX : Hid (qAD qL o = es) := by unfold Hid; rw [HW.out, if_neg h0]
   have h0b : (es != 0) = true := bne_iff_ne.2 h0
   clear h0 HW
   go_enter Tryz.func24, Tryz.ntmps24
   go_wp2_with (go_at_call 45; refine (HS2.out _ (qE _ _)).mono ?_; rintro e w2 ⟨rfl, hb2⟩; obtain ⟨hb3, y0, y1⟩ := HNX.out w2 (by simpa using hb2); have HB3 := Lib.hid hb3; clear hb2 hb3)
   go_ret
   exact ⟨qR HX.out.symm, HB3.out⟩
end Go.Proofs.YtgjmbjahgcndnaaGreatDoor.Li
namespace Go.Proofs.YtgjmbjahgcndnaaGreatDoor.Xp
open Go.RowKit
theorem low32 (x : Int) : (BitVec.ofInt 64 x).toNat % 2 ^ 32 = (BitVec.ofInt 32 x).toNat := by
 rw [BitVec.toNat_ofInt, BitVec.toNat_ofInt]
 omega
theorem qE5 (x y : Int) : sgn (bits .and .i64 x y) = bits .and .i32 x y := by
 show sgn (IntKind.i64.wrap ((BitVec.ofInt 64 x &&& BitVec.ofInt 64 y).toNat : Nat)) = IntKind.i32.wrap ((BitVec.ofInt 32 x &&& BitVec.ofInt 32 y).toNat : Nat)
 have key : (BitVec.ofInt 32 x &&& BitVec.ofInt 32 y).toNat = (BitVec.ofInt 64 x &&& BitVec.ofInt 64 y).toNat % 2 ^ 32 := by
  rw [BitVec.toNat_and, BitVec.toNat_and, Nat.and_mod_two_pow, low32, low32]
 rw [key, qH2, IntKind.wrap_i64]
 unfold sgn wrap32
 omega
theorem or_low (x y : Int) : sgn (bits .or .i64 x y) = bits .or .i32 x y := by
 show sgn (IntKind.i64.wrap ((BitVec.ofInt 64 x ||| BitVec.ofInt 64 y).toNat : Nat)) = IntKind.i32.wrap ((BitVec.ofInt 32 x ||| BitVec.ofInt 32 y).toNat : Nat)
 have key : (BitVec.ofInt 32 x ||| BitVec.ofInt 32 y).toNat = (BitVec.ofInt 64 x ||| BitVec.ofInt 64 y).toNat % 2 ^ 32 := by
  rw [BitVec.toNat_or, BitVec.toNat_or, Nat.or_mod_two_pow, low32, low32]
 rw [key, qH2, IntKind.wrap_i64]
 unfold sgn wrap32
 omega
theorem and31 (n : Int) : bits .and .i64 n 31 = n % 32 := by
 have h31 : (BitVec.ofInt 64 31).toNat = 2 ^ 5 - 1 := by decide
 have key : (BitVec.ofInt 64 n &&& BitVec.ofInt 64 31).toNat = (n % ((2 ^ 64 : Nat) : Int)).toNat % 2 ^ 5 := by
  rw [BitVec.toNat_and, BitVec.toNat_ofInt, h31, Nat.and_two_pow_sub_one_eq_mod]
 show IntKind.i64.wrap ((BitVec.ofInt 64 n &&& BitVec.ofInt 64 31).toNat : Nat) = n % 32
 rw [key, IntKind.wrap_i64]
 omega
theorem qAI (n : Int) (w : World) :
  Calls Tryz.prog 267 #[.int .i64 n] w fun e w' => e = .returned (.agg #[.string ⟨#[]⟩, .int .i64 (sgn n)]) /\ Below w.heap.size w w' := by
 go_enter Tryz.func267, Tryz.ntmps267
 go_wp2_with (go_at_call 58; refine (qBC _ _).mono ?_; rintro e w' ⟨rfl, rfl⟩)
 exact bodyPost_ret (v := .agg #[.string ⟨#[]⟩, .int .i64 (sgn n)]) (by simp [results, Tryz.results267, go_sem]) rfl ⟨rfl, (Below.refl _ _).alloc (Nat.le_refl _) _⟩
theorem qFl (kind : Int) (a b : List UInt8) (w : World) :
  Calls Tryz.prog 273 #[.int .i64 kind, .string ⟨a.toArray⟩, .string ⟨b.toArray⟩] w fun e w' => e = .returned (.tuple #[.string ⟨((qBJ kind a b).getD []).toArray⟩, .bool (qBJ kind a b).isSome]) /\ w = w' := by
 have go : ∀ (o : Option (List UInt8)), qBJ kind a b = o -> (Calls Tryz.prog 273 #[.int .i64 kind, .string ⟨a.toArray⟩, .string ⟨b.toArray⟩] w fun e w' => e = .returned (.tuple #[.string ⟨(o.getD []).toArray⟩, .bool o.isSome]) /\ w = w') -> Calls Tryz.prog 273 #[.int .i64 kind, .string ⟨a.toArray⟩, .string ⟨b.toArray⟩] w fun e w' => e = .returned (.tuple #[.string ⟨((qBJ kind a b).getD []).toArray⟩, .bool (qBJ kind a b).isSome]) /\ w = w' := by
  intro o ho h
  rw [ho]
  exact h
 by_cases ha : a = []
 ·by_cases hb : b = []
  ·refine go (some []) (by simp [qBJ, ha, hb]) ?_
   subst ha hb
   go_enter Tryz.func273, Tryz.ntmps273
   go_wp2
   go_ret2
   exact ⟨rfl, rfl⟩
  ·have eb : (b == []) = false := by simpa using hb
   by_cases h6 : kind = 6
   ·refine go (some b) (by simp [qBJ, ha, hb, h6]) ?_
    subst ha h6
    go_enter Tryz.func273, Tryz.ntmps273
    go_wp2
    go_ret2
    exact ⟨rfl, rfl⟩
   ·have e6 : (kind == 6) = false := by simpa using h6
    have hab : ¬ ([] = b) := fun e => hb e.symm
    have eab : (([] : List UInt8) == b) = false := by simpa using hab
    refine go none (by simp [qBJ, ha, hb, h6, hab]) ?_
    subst ha
    by_cases h7 : kind = 7
    ·subst h7
     go_enter Tryz.func273, Tryz.ntmps273
     go_wp2
     go_ret2
     exact ⟨rfl, rfl⟩
    ·have e7 : (kind == 7) = false := by simpa using h7
     go_enter Tryz.func273, Tryz.ntmps273
     go_wp2
     go_ret2
     exact ⟨rfl, rfl⟩
 ·have ea : (a == []) = false := by simpa using ha
  by_cases hb : b = []
  ·subst hb
   by_cases h6 : kind = 6
   ·refine go (some a) (by simp [qBJ, ha, h6]) ?_
    subst h6
    go_enter Tryz.func273, Tryz.ntmps273
    go_wp2
    go_ret2
    exact ⟨rfl, rfl⟩
   ·have e6 : (kind == 6) = false := by simpa using h6
    by_cases h7 : kind = 7
    ·refine go (some a) (by simp [qBJ, ha, h7]) ?_
     subst h7
     go_enter Tryz.func273, Tryz.ntmps273
     go_wp2
     go_ret2
     exact ⟨rfl, rfl⟩
    ·have e7 : (kind == 7) = false := by simpa using h7
     refine go none (by simp [qBJ, ha, h6, h7]) ?_
     go_enter Tryz.func273, Tryz.ntmps273
     go_wp2
     go_ret2
     exact ⟨rfl, rfl⟩
  ·have eb : (b == []) = false := by simpa using hb
   by_cases h7 : kind = 7
   ·by_cases hab : a = b
    ·have eab : (a == b) = true := by simpa using hab
     refine go (some []) (by simp [qBJ, h7, hab]) ?_
     subst h7
     go_enter Tryz.func273, Tryz.ntmps273
     go_wp2
     go_ret2
     exact ⟨rfl, rfl⟩
    ·have eab : (a == b) = false := by simpa using hab
     refine go none (by simp [qBJ, ha, hb, h7, hab]) ?_
     subst h7
     go_enter Tryz.func273, Tryz.ntmps273
     go_wp2
     go_ret2
     exact ⟨rfl, rfl⟩
   ·have e7 : (kind == 7) = false := by simpa using h7
    refine go none (by simp [qBJ, ha, hb, h7]) ?_
    by_cases h6 : kind = 6
    ·subst h6
     go_enter Tryz.func273, Tryz.ntmps273
     go_wp2
     go_ret2
     exact ⟨rfl, rfl⟩
    ·have e6 : (kind == 6) = false := by simpa using h6
     go_enter Tryz.func273, Tryz.ntmps273
     go_wp2
     go_ret2
     exact ⟨rfl, rfl⟩
theorem qCh (z : Int) : sgn (wrap64 z) = wrap32 z := by unfold sgn wrap32 wrap64; omega
theorem qIi (a t : Int) : wrap32 (a + 4294967296 * t) = wrap32 a := by unfold wrap32; omega
theorem qIs (x c : Int) : wrap32 (x * c) = wrap32 (x % 4294967296 * c) := by
 have h : x * c = x % 4294967296 * c + 4294967296 * (x / 4294967296 * c) := by
  have := Int.emod_add_mul_ediv x 4294967296
  calc x * c = (x % 4294967296 + 4294967296 * (x / 4294967296)) * c := by rw [this]
   _ = _ := by rw [Int.add_mul, Int.mul_assoc]
 rw [h, qIi]
theorem five (y : Int) : (y % 4294967296) % 32 = y % 32 := by omega
theorem qD1 (kind x y : Int) (w : World) (h5 : 5 <= kind) (h11 : kind <= 11) :
  Calls Tryz.prog 274 #[.int .i64 kind, .int .i64 x, .int .i64 y] w fun e w' => (∃ n, e = .returned (.int .i64 n) /\ sgn n = opR kind x y) /\ w = w' := by
 have : kind = 5 \/ kind = 6 \/ kind = 7 \/ kind = 8 \/ kind = 9 \/ kind = 10 \/ kind = 11 := by omega
 rcases this with rfl | rfl | rfl | rfl | rfl | rfl | rfl
 ·go_enter Tryz.func274, Tryz.ntmps274
  go_wp2
  go_ret
  exact ⟨⟨_, rfl, qCh _⟩, rfl⟩
 ·go_enter Tryz.func274, Tryz.ntmps274
  go_wp2
  go_ret
  exact ⟨⟨_, rfl, qCh _⟩, rfl⟩
 ·go_enter Tryz.func274, Tryz.ntmps274
  go_wp2
  go_ret
  exact ⟨⟨_, rfl, qCh _⟩, rfl⟩
 ·have := and31 y
  have hs : ¬ y % 32 < 0 := by omega
  go_enter Tryz.func274, Tryz.ntmps274
  go_wp2
  go_ret
  refine ⟨⟨_, rfl, (qCh _).trans ?_⟩, rfl⟩
  show _ = wrap32 ((x % 4294967296) * 2 ^ ((y % 4294967296) % 32).toNat)
  rw [five, qIs]
 ·have := and31 y
  have hs : ¬ y % 32 < 0 := by omega
  go_enter Tryz.func274, Tryz.ntmps274
  go_wp2
  go_ret
  refine ⟨⟨_, rfl, (qCh _).trans ?_⟩, rfl⟩
  show _ = wrap32 ((x % 4294967296) / 2 ^ ((y % 4294967296) % 32).toNat)
  rw [five]
 ·go_enter Tryz.func274, Tryz.ntmps274
  go_wp2
  go_ret
  exact ⟨⟨_, rfl, qE5 x y⟩, rfl⟩
 ·go_enter Tryz.func274, Tryz.ntmps274
  go_wp2
  go_ret
  exact ⟨⟨_, rfl, or_low x y⟩, rfl⟩
theorem qH {w : World} {n : Nat} (o : Obj) (h : w.heap.size = n) : (w.alloc o).heap[n]? = some o := h ▸ heap_alloc_new w o
theorem cell_at {w : World} {n o : Nat} {cs : Array Value} {t : TypeId} {v : Value} (h : w.heap.size = n) (hv : cs[o]? = some v) : (w.alloc (.cells cs t)).cell? ⟨n, o, none⟩ = some v := by
 simp [World.cell?, qH _ h, hv]
theorem ofTwo_any (kind : Int) (a b : Va) (w : World) (h5 : 5 <= kind) (h11 : kind <= 11) :
  Calls Tryz.prog 264 #[.int .i64 kind, .agg #[.string ⟨a.name.toArray⟩, .int .i64 a.n], .agg #[.string ⟨b.name.toArray⟩, .int .i64 b.n]] w fun e w' =>
   e = .returned (evalV (match qBJ kind a.name b.name with | some p => .ok ⟨p, opR kind a.n b.n⟩ | none => .error 8)) /\ Below w.heap.size w w' := by
 cases hp : qBJ kind a.name b.name with
 | none =>
   have hpl := qFl kind a.name b.name
   rw [hp] at hpl
   simp only [Option.getD_none, Option.isSome_none] at hpl
   go_enter Tryz.func264, Tryz.ntmps264
   go_wp2_with (go_at_call 273; refine (hpl _).mono ?_; rintro e w' ⟨rfl, rfl⟩)
   exact bodyPost_ret (v := .tuple #[.agg #[.string ⟨#[]⟩, .int .i64 0], .int .i64 8]) (by simp [results, Tryz.results264, go_sem]) rfl ⟨rfl, (((Below.refl _ _).alloc (Nat.le_refl _) _).alloc (by simp) _).alloc (by simp; omega) _⟩
 | some p =>
   have hpl := qFl kind a.name b.name
   rw [hp] at hpl
   simp only [Option.getD_some, Option.isSome_some] at hpl
   go_enter Tryz.func264, Tryz.ntmps264
   go_wp2_with (go_at_call 273; refine (hpl _).mono ?_; rintro e w' ⟨rfl, rfl⟩)
   refine (qD1 kind a.n b.n _ h5 h11).mono ?_
   rintro e w' ⟨⟨n, rfl, hn⟩, rfl⟩
   go_wp2_with (go_at_call 58; refine (qBC _ _).mono ?_; rintro e w' ⟨rfl, rfl⟩; simp only [hn])
   exact bodyPost_ret (v := .tuple #[.agg #[.string ⟨p.toArray⟩, .int .i64 (opR kind a.n b.n)], .int .i64 0]) (by simp [results, Tryz.results264, go_sem]) rfl ⟨rfl, (((Below.refl _ _).alloc (Nat.le_refl _) _).alloc (by simp) _).alloc (by simp; omega) _⟩
theorem xor_neg (n : Int) : sgn (bits .xor .i64 (-1) n) = sgn (-n - 1) := by
 show sgn (IntKind.i64.wrap ((BitVec.ofInt 64 (-1) ^^^ BitVec.ofInt 64 n).toNat : Nat)) = _
 have h1 : BitVec.ofInt 64 (-1) = BitVec.allOnes 64 := by decide
 have key : (BitVec.ofInt 64 (-1) ^^^ BitVec.ofInt 64 n).toNat = 2 ^ 64 - 1 - (n % ((2 ^ 64 : Nat) : Int)).toNat := by
  rw [h1, BitVec.allOnes_xor, BitVec.toNat_not, BitVec.toNat_ofInt]
 rw [key, IntKind.wrap_i64]
 unfold sgn wrap32
 omega
def Var2 (w : World) (R : Nat) (a b : Value) : Prop := (w.cell? ⟨R, 0, none⟩ = some a /\ w.cell? ⟨R, 1, none⟩ = some b) /\ w.frozen? ⟨R, 0, none⟩ = false /\ w.frozen? ⟨R, 1, none⟩ = false
theorem qo {w : World} {R : Nat} {a b : Value} {t : TypeId} (h : w.heap[R]? = some (.cells #[a, b] t (0, 0))) : Var2 w R a b := by
 refine ⟨⟨?_, ?_⟩, ?_, ?_⟩ <;> simp [World.cell?, World.frozen?, h]
theorem Var2.keep {w w' : World} {R : Nat} {a b : Value} (h : Var2 w R a b) (hb : w'.heap[R]? = w.heap[R]?) : Var2 w' R a b := by
 obtain ⟨⟨h0, h1⟩, f0, f1⟩ := h
 refine ⟨⟨?_, ?_⟩, ?_, ?_⟩
 ·rw [World.cell?_of_block (w := w) hb]; exact h0
 ·rw [World.cell?_of_block (w := w) hb]; exact h1
 ·rw [World.frozen?_of_block (w := w) hb]; exact f0
 ·rw [World.frozen?_of_block (w := w) hb]; exact f1
theorem bput2 {B : Nat} {w w' : World} {R : Nat} {a b : Value} (h : Below B w w') (hR : B <= R) : Below B w ((w'.setCell ⟨R, 0, none⟩ a).setCell ⟨R, 1, none⟩ b) := (h.setCell hR a).setCell hR b
theorem neg_sgn (n : Int) : sgn (wrap64 (-n)) = sgn (-n) := qCh _
theorem qLh (kind : Int) (a : Va) (w : World) (hk : kind = 3 \/ kind = 4) :
  Calls Tryz.prog 265 #[.int .i64 kind, .agg #[.string ⟨a.name.toArray⟩, .int .i64 a.n]] w fun e w' =>
   e = .returned (evalV (if a.name = [] then .ok ⟨[], sgn (if kind = 4 then -a.n - 1 else -a.n)⟩ else .error 8)) /\ Below w.heap.size w w' := by
 by_cases ha : a.name = []
 ·rw [if_pos ha]
  obtain ⟨nm, n⟩ := a
  simp only at ha ⊢
  subst ha
  rcases hk with rfl | rfl
  ·rw [if_neg (by decide)]
   go_enter Tryz.func265, Tryz.ntmps265
   go_wp2_with fail
   refine (qAI _ _).mono ?_
   rintro e w1 ⟨rfl, hb1⟩
   have HB1 : Hid (Below w.heap.size w w1) := (((Below.refl _ _).alloc (Nat.le_refl _) _).alloc (by simp) _).trans (hb1.mono (by simp; omega))
   obtain ⟨⟨x0, x1⟩, f0, f1⟩ := (qo (qH (w := w.alloc (.cells #[.string ⟨#[]⟩, .int .i64 n] 201)) (n := w.heap.size + 1) (.cells #[.string ⟨#[]⟩, .int .i64 0] 201) (by simp))).keep (hb1.block _ (by simp))
   clear hb1
   rw [neg_sgn]
   go_wp2
   exact bodyPost_ret (v := .tuple #[.agg #[.string ⟨#[]⟩, .int .i64 (sgn (-n))], .int .i64 0]) (by simp [results, Tryz.results265, go_sem, x0, x1]) rfl ⟨rfl, bput2 HB1.out (Nat.le_succ _)⟩
  ·rw [if_pos rfl]
   have hsg : IntKind.i64.signed = true := rfl
   go_enter Tryz.func265, Tryz.ntmps265
   go_wp2_with fail
   refine (qAI _ _).mono ?_
   rintro e w1 ⟨rfl, hb1⟩
   have HB1 : Hid (Below w.heap.size w w1) := (((Below.refl _ _).alloc (Nat.le_refl _) _).alloc (by simp) _).trans (hb1.mono (by simp; omega))
   obtain ⟨⟨x0, x1⟩, f0, f1⟩ := (qo (qH (w := w.alloc (.cells #[.string ⟨#[]⟩, .int .i64 n] 201)) (n := w.heap.size + 1) (.cells #[.string ⟨#[]⟩, .int .i64 0] 201) (by simp))).keep (hb1.block _ (by simp))
   clear hb1
   rw [xor_neg]
   go_wp2
   exact bodyPost_ret (v := .tuple #[.agg #[.string ⟨#[]⟩, .int .i64 (sgn (-n - 1))], .int .i64 0]) (by simp [results, Tryz.results265, go_sem, x0, x1]) rfl ⟨rfl, bput2 HB1.out (Nat.le_succ _)⟩
 ·rw [if_neg ha]
  have ea : (a.name == []) = false := by simpa using ha
  go_enter Tryz.func265, Tryz.ntmps265
  go_wp2
  exact bodyPost_ret (v := .tuple #[.agg #[.string ⟨#[]⟩, .int .i64 0], .int .i64 8]) (by simp [results, Tryz.results265, go_sem]) rfl ⟨rfl, ((Below.refl _ _).alloc (Nat.le_refl _) _).alloc (by simp) _⟩
theorem qJk (kind n : Int) (nm : List UInt8) (ad : Option Addr) (len cap : Nat) (w : World) (hL : qAT w) :
  Calls Tryz.prog 263 #[.agg #[.int .i64 kind, .int .i64 n, .string ⟨nm.toArray⟩, .slice ad len cap]] w fun e w' =>
   e = .returned (.bool (decide (1 <= kind /\ kind <= 11 /\ (len : Int) = qCF kind))) /\ Below w.heap.size w w' := by
 have hz := hL.sz
 by_cases h1 : 1 <= kind
 ·by_cases h11 : kind <= 11
  ·have hk := hL.k0 kind (by omega) h11
   have e1 : decide (1 <= kind) = true := by simpa using h1
   have e2 : decide (kind <= 11) = true := by simpa using h11
   have hix : 0 <= kind /\ kind < 12 := by omega
   go_enter Tryz.func263, Tryz.ntmps263
   go_wp2
   go_quiet (fail)
   go_wp2
   go_ret
   exact ⟨qO (Bool.eq_iff_iff.2 (by simp [h1, h11])), ((Below.refl _ _).alloc (Nat.le_refl _) _).trans (Go.Joins.below_draws _ _ nq)⟩
  ·have e1 : decide (1 <= kind) = true := by simpa using h1
   have e2 : decide (kind <= 11) = false := by simpa using h11
   go_enter Tryz.func263, Tryz.ntmps263
   go_wp2
   go_quiet (fail)
   go_wp2
   go_ret
   exact ⟨qO (by simp; omega), ((Below.refl _ _).alloc (Nat.le_refl _) _).trans (Go.Joins.below_draws _ _ nq)⟩
 ·have e1 : decide (1 <= kind) = false := by simpa using h1
  go_enter Tryz.func263, Tryz.ntmps263
  go_wp2
  go_quiet (fail)
  go_wp2
  go_ret
  exact ⟨qO (by simp; omega), ((Below.refl _ _).alloc (Nat.le_refl _) _).trans (Go.Joins.below_draws _ _ nq)⟩
theorem qEs (nm q : List UInt8) (qn : Int) (A : Nat) (w : World) (hA : w.cell? ⟨A, 0, none⟩ = some (.string ⟨nm.toArray⟩)) :
  Calls Tryz.prog 275 #[.agg #[.string ⟨q.toArray⟩, .int .i64 qn], .pointer (some ⟨A, 0, none⟩)] w fun e w' => e = .returned (.bool (decide (q = nm))) /\ Below w.heap.size w w' := by
 have hl : A < w.heap.size := World.block_lt_of_cell? w _ hA
 go_enter Tryz.func275, Tryz.ntmps275
 go_wp2
 go_ret
 exact ⟨qO (Bool.eq_iff_iff.2 (by simp)), (Below.refl _ _).alloc (Nat.le_refl _) _⟩
def qAh (nm : List UInt8) : List (List UInt8 × Int) -> Nat -> Int
 | [], _ => -1
 | x :: r, k => if x.1 = nm then (k : Int) else qAh nm r (k + 1)
theorem qIG (nm : List UInt8) : ∀ (l : List (List UInt8 × Int)) (k : Nat), (qAh nm l k < 0 /\ qGG nm l = none) \/ (∃ i : Nat, ∃ h : i < l.length, qAh nm l k = ((k + i : Nat) : Int) /\ qGG nm l = some l[i].2)
 | [], _ => Or.inl ⟨by simp [qAh], rfl⟩
 | x :: r, k => by
   by_cases h : x.1 = nm
   ·exact Or.inr ⟨0, by simp, by simp [qAh, h], by simp [qGG, h]⟩
   ·rcases qIG nm r (k + 1) with ⟨h1, h2⟩ | ⟨i, hi, h1, h2⟩
    ·exact Or.inl ⟨by rw [qAh, if_neg h]; exact h1, by rw [qGG, if_neg h]; exact h2⟩
    ·exact Or.inr ⟨i + 1, by simpa using hi, by rw [qAh, if_neg h, h1]; omega, by rw [qGG, if_neg h]; exact h2⟩
theorem qJg (nm : List UInt8) (qv : Value) (l : List (List UInt8 × Int)) (A : Nat) (w : World) (hA : w.cell? ⟨A, 0, none⟩ = some (.string ⟨nm.toArray⟩)) (hQ : qDd w qv l) :
  Calls Tryz.prog 189 #[qv, .func (.func 275) #[] #[.pointer (some ⟨A, 0, none⟩)]] w fun e w' => e = .returned (.int .i64 (qAh nm l 0)) /\ Below w.heap.size w w' := by
 obtain ⟨ad, cap, rfl, hm, hcs⟩ := hQ
 unfold maxLen at hm
 have hAl : A < w.heap.size := World.block_lt_of_cell? w _ hA
 go_enter Tryz.func189, Tryz.ntmps189
 go_wp2
 go_loopw [8] (fun i wr => ∃ k : Nat, k <= l.length /\ i = .int .i64 k /\ Below w.heap.size w wr /\ Hid (qAh nm l 0 = qAh nm (l.drop k) k)) (fun i _ => l.length - (intOf i).toNat)
 case atStart => exact ⟨0, Nat.zero_le _, rfl, Below.refl _ _, rfl⟩
 case round =>
  obtain ⟨k, hk, rfl, hB, HF⟩ := hrel
  by_cases hlt : k < l.length
  ·have hk1 : (k : Int) < l.length := by omega
   obtain ⟨b, o, rfl, hl, hcell⟩ := hcs (by omega)
   obtain ⟨c0, c1⟩ := hcell k hlt
   rw [<- hB.cell (by exact hl)] at c0 c1
   have hA2 : wr.cell? ⟨A, 0, none⟩ = some (.string ⟨nm.toArray⟩) := by rw [hB.cell (by exact hAl)]; exact hA
   have hd : l.drop k = l[k] :: l.drop (k + 1) := List.drop_eq_getElem_cons hlt
   rw [hd] at HF
   have HB : Hid (Below w.heap.size w wr) := hB
   have hsz := hB.size
   clear hcell hcs hd hB
   generalize l[k].2 = qn at *
   cases hq : decide (l[k].1 = nm)
   ·have HF2 : Hid (qAh nm l 0 = qAh nm (l.drop (k + 1)) (k + 1)) := by unfold Hid; rw [HF.out, qAh, if_neg (by simpa using hq)]
    have hcall := fun w h => qEs nm l[k].1 qn A w h
    rw [hq] at hcall
    clear HF hq
    generalize l[k].1 = qq at *
    go_wp2_with (go_at_call 275; refine (hcall _ hA2).mono ?_; rintro e w2 ⟨rfl, hb2⟩; have HB2 : Hid (Below w.heap.size w w2) := HB.out.trans (hb2.mono hsz); clear hb2)
    exact ⟨⟨k + 1, by omega, by go_num, HB2.out, HF2⟩, by simp [intOf]; omega⟩
   ·have HF2 : Hid (qAh nm l 0 = (k : Int)) := by unfold Hid; rw [HF.out, qAh, if_pos (by simpa using hq)]
    have hcall := fun w h => qEs nm l[k].1 qn A w h
    rw [hq] at hcall
    clear HF hq
    generalize l[k].1 = qq at *
    go_wp2_with (go_at_call 275; refine (hcall _ hA2).mono ?_; rintro e w2 ⟨rfl, hb2⟩; have HB2 : Hid (Below w.heap.size w w2) := HB.out.trans (hb2.mono hsz); clear hb2)
    go_ret
    exact ⟨qR HF2.out.symm, HB2.out⟩
  ·have hk1 : ¬ (k : Int) < l.length := by omega
   have HF2 : Hid (qAh nm l 0 = -1) := by rw [HF.out, List.drop_eq_nil_of_le (by omega)]; rfl
   clear HF
   go_wp2
   go_ret
   exact ⟨qR HF2.out.symm, hB⟩
def qEj (nm : List UInt8) (l : List (List UInt8 × Int)) : Va := match qGG nm l with
 | some x => ⟨[], sgn x⟩
 | none => ⟨nm, 0⟩
theorem qJx (nm : List UInt8) (qv : Value) (l : List (List UInt8 × Int)) (w : World) (hQ : qDd w qv l) :
  Calls Tryz.prog 266 #[.string ⟨nm.toArray⟩, qv] w fun e w' => e = .returned (vaV (qEj nm l)) /\ Below w.heap.size w w' := by
 have hmf : ∀ (fn : Fn) (first cap : Array Value) (w : World), (Instr.makeFunc fn first cap).run Tryz.prog w = .ok (.func fn first cap) w := fun _ _ _ _ => rfl
 have hb0 : Below w.heap.size w ((w.alloc (.cells #[.string ⟨nm.toArray⟩] 9)).alloc (.cells #[.string ⟨#[]⟩, .int .i64 0] 201)) := ((Below.refl _ _).alloc (Nat.le_refl _) _).alloc (by simp) _
 have hQ0 := hQ.below hb0 (Nat.le_refl _)
 have hc0 : ((w.alloc (.cells #[.string ⟨nm.toArray⟩] 9)).alloc (.cells #[.string ⟨#[]⟩, .int .i64 0] 201)).cell? ⟨w.heap.size, 0, none⟩ = some (.string ⟨nm.toArray⟩) := by
  rw [World.cell?_alloc_lt _ _ _ (by simp)]
  exact cell_at rfl rfl
 have hshape : ∃ ad cap, qv = .slice ad l.length cap := by obtain ⟨ad, cap, e, _⟩ := hQ; exact ⟨ad, cap, e⟩
 obtain ⟨ad, cap, rfl⟩ := hshape
 have hz : Hid (w.heap.size + 1 < ((w.alloc (.cells #[.string ⟨nm.toArray⟩] 9)).alloc (.cells #[.string ⟨#[]⟩, .int .i64 0] 201)).heap.size) := by simp [Hid]
 clear hQ
 go_enter Tryz.func266, Tryz.ntmps266
 go_wp2_with fail
 refine (qJg nm _ l w.heap.size _ hc0 hQ0).mono ?_
 rintro e w1 ⟨rfl, hb1⟩
 have HB1 : Hid (Below w.heap.size w w1) := hb0.trans (hb1.mono (by simp; omega))
 have hQ1 := hQ0.below hb1 (Nat.le_refl _)
 have hc1 : w1.cell? ⟨w.heap.size, 0, none⟩ = some (.string ⟨nm.toArray⟩) := by rw [hb1.cell (by simp; omega)]; exact hc0
 obtain ⟨⟨x0, x1⟩, f0, f1⟩ := (qo (qH (w := w.alloc (.cells #[.string ⟨nm.toArray⟩] 9)) (n := w.heap.size + 1) (.cells #[.string ⟨#[]⟩, .int .i64 0] 201) (by simp))).keep (hb1.block _ hz.out)
 have hz1 : w.heap.size + 1 < w1.heap.size := Nat.lt_of_lt_of_le hz.out hb1.size
 clear hb1 hb0 hQ0 hc0
 rcases qIG nm l 0 with ⟨h1, h2⟩ | ⟨i, hi, h1, h2⟩
 ·have HX : Hid (vaV (qEj nm l) = .agg #[.string ⟨nm.toArray⟩, .int .i64 0]) := by unfold Hid qEj; rw [h2]; rfl
  generalize qAh nm l 0 = ix at *
  clear hQ1 h2
  go_wp2
  exact bodyPost_ret (v := .agg #[.string ⟨nm.toArray⟩, .int .i64 0]) (by simp [results, Tryz.results266, go_sem, x0, x1]) rfl ⟨by rw [HX.out], bput2 HB1.out (Nat.le_succ _)⟩
 ·have HX : Hid (vaV (qEj nm l) = .agg #[.string ⟨#[]⟩, .int .i64 (sgn l[i].2)]) := by unfold Hid qEj; rw [h2]; rfl
  rw [h1]
  obtain ⟨ad', cap', e', hm, hcs⟩ := hQ1
  obtain ⟨b, o, hbo, hl, hcell⟩ := hcs (by omega)
  injection e' with e1 _ _
  subst e1 hbo
  obtain ⟨_, c1⟩ := hcell i hi
  have hi2 : ((0 + i : Nat) : Int) < l.length := by omega
  have hi3 : ¬ ((0 + i : Nat) : Int) < 0 := by omega
  have hii : ((0 + i : Nat) : Int) = (i : Int) := by omega
  rw [hii] at hi2 hi3 ⊢
  clear hcs hcell h1 h2
  go_wp2_with fail
  refine (qAI _ _).mono ?_
  rintro e w2 ⟨rfl, hb2⟩
  have HB2 : Hid (Below w.heap.size w w2) := HB1.out.trans (hb2.mono (by omega))
  rw [<- hb2.cell (by exact hz1)] at x0 x1
  rw [<- hb2.frozen (by exact hz1)] at f0 f1
  clear hb2
  go_wp2
  exact bodyPost_ret (v := .agg #[.string ⟨#[]⟩, .int .i64 (sgn l[i].2)]) (by simp [results, Tryz.results266, go_sem, x0, x1]) rfl ⟨by rw [HX.out], bput2 HB2.out (Nat.le_succ _)⟩
end Go.Proofs.YtgjmbjahgcndnaaGreatDoor.Xp
