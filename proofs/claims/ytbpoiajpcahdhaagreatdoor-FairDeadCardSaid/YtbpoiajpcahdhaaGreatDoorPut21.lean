/- The contracts of the program's own wrongReloc, wrongRelocs, wrongSyms and Wrong of an object. The contracts of the program's own wrongSyms and Wrong of an object. The contracts of the program's own copies of lists: own of bytes, of syms, of relocs. The contract of the program's own Own of an object. -/
import Derived.Test.YtbpoiajpcahdhaaGreatDoorPut14
import Derived.Test.YtbpoiajpcahdhaaGreatDoorPut9
import Derived.Maps.OwnSet
import Derived.Deep.AppendSrc
namespace Go.Proofs.YtbpoiajpcahdhaaGreatDoor.Li
open Go.RowKit Go.Maps

theorem name_same (s : ByteArray) (w : World) :
    Calls Tryz.prog 94 #[.string s] w fun e w' => e = .returned (.bool (nameR s.data.toList)) ∧ w = w' :=
  (name_any s w).mono fun _ _ h => ⟨h.1, h.2.symm⟩
theorem signed_ob (n : Int) (w : World) :
    Calls Tryz.prog 132 #[.int .i64 n] w fun e w' => e = .returned (.int .i64 (wrap32 n)) ∧ w' = w :=
  (Oi.signed_any n w).mono fun _ _ h => ⟨h.1.trans (ret_int (by unfold wrap32 wrap64; omega)), h.2⟩

def relV (r : Re) : Value := .agg #[.int .i64 r.pos, .int .i64 r.size, .string ⟨r.name.toArray⟩, .int .i64 r.add]

set_option maxHeartbeats 4000000 in
theorem wrel_any (r : Re) (last : Int) (len : Nat) (w : World) (hl0 : 0 ≤ last) (hlen : len ≤ 8000) :
    Calls Tryz.prog 95 #[relV r, .int .i64 last, .int .i64 (len : Int)] w fun e w' => e = .returned (.int .i64 (relErr nameR len last r)) ∧ Below w.heap.size w w' := by
  obtain ⟨rp, rz, rn, ra⟩ := r
  unfold relV
  simp only
  have hnm : ∀ W, Calls Tryz.prog 94 #[.string ⟨rn.toArray⟩] W fun e w' => e = .returned (.bool (nameR rn)) ∧ W = w' := fun W => name_same ⟨rn.toArray⟩ W
  obtain ⟨E, hE⟩ : ∃ E, E = relErr nameR len last ⟨rp, rz, rn, ra⟩ := ⟨_, rfl⟩
  rw [← hE]
  have HE := Lib.hid hE
  clear hE
  by_cases hz24 : rz ≠ 2 ∧ rz ≠ 4
  · have e2 : (rz != 2) = true := by simpa using hz24.1
    have e4 : (rz != 4) = true := by simpa using hz24.2
    have HX : Hid (E = 1) := by unfold Hid; rw [HE.out]; unfold relErr; rw [if_pos hz24]
    clear hz24
    go_enter Tryz.func95, Tryz.ntmps95
    go_wp2
    go_ret
    exact ⟨ret_int HX.out.symm, oalloc _ _⟩
  · have hzz : rz = 2 ∨ rz = 4 := by omega
    clear hz24
    by_cases hp : rp < last ∨ (len : Int) - rz < rp
    · have HX : Hid (E = 3) := by unfold Hid; rw [HE.out]; unfold relErr; rw [if_neg (by simp only; omega), if_pos (by simp only; omega)]
      rcases hzz with rfl | rfl
      all_goals
        by_cases hp1 : rp < last
        · clear hp
          go_enter Tryz.func95, Tryz.ntmps95
          go_wp2
          go_ret
          exact ⟨ret_int HX.out.symm, oalloc _ _⟩
        · have hp2 := hp.resolve_left hp1
          clear hp
          go_enter Tryz.func95, Tryz.ntmps95
          go_wp2
          go_ret
          exact ⟨ret_int HX.out.symm, oalloc _ _⟩
    · have hp1 : ¬ rp < last := fun h => hp (.inl h)
      have hp2 : ¬ (len : Int) - rz < rp := fun h => hp (.inr h)
      have hrp : 0 ≤ rp := by omega
      have hpp : ¬ (rp < last ∨ 8000 < rp ∨ (len : Int) < rp + rz) := by omega
      clear hp
      by_cases hal : rp % rz = 0
      · by_cases hn : rn ≠ [] ∧ nameR rn = false
        · have HX : Hid (E = 7) := by unfold Hid; rw [HE.out]; unfold relErr; rw [if_neg (by simp only; omega), if_neg hpp, if_neg (by simpa using hal), if_pos hn]
          have n1 : (rn == []) = false := by simpa using hn.1
          rw [hn.2] at hnm
          clear hn hpp
          rcases hzz with rfl | rfl
          all_goals
            have hal2 : (rp % _ != 0) = false := bne_eq_false_iff_eq.2 hal
            go_enter Tryz.func95, Tryz.ntmps95
            go_wp2_with (go_at_call 94; refine (hnm _).mono ?_; rintro e w' ⟨rfl, rfl⟩)
            go_ret
            exact ⟨ret_int HX.out.symm, oalloc _ _⟩
        · have HN0 : Hid (ra = wrap32 ra → E = 0) := fun ha => by
            rw [HE.out]; unfold relErr; rw [if_neg (by simp only; omega), if_neg hpp, if_neg (by simpa using hal), if_neg hn, if_neg (by simpa using ha)]
          have HN3 : Hid (ra ≠ wrap32 ra → E = 3) := fun ha => by
            rw [HE.out]; unfold relErr; rw [if_neg (by simp only; omega), if_neg hpp, if_neg (by simpa using hal), if_neg hn, if_pos ha]
          have HQ : Hid (∀ wy, Below (w.heap.size + 1) (w.alloc (.cells #[.int .i64 rp, .int .i64 rz, .string ⟨rn.toArray⟩, .int .i64 ra] 113)) wy → Below w.heap.size w wy) := fun wy hby => (oalloc _ _).trans (hby.mono (Nat.le_succ _))
          clear hpp
          by_cases hn0 : rn = []
          · have n1 : (rn == []) = true := by simpa using hn0
            clear hn hn0 hnm
            rcases hzz with rfl | rfl
            all_goals
              have hal2 : (rp % _ != 0) = false := bne_eq_false_iff_eq.2 hal
              go_enter Tryz.func95, Tryz.ntmps95
              go_wp2
              go_quiet ((go_at_call 132; exact Calls.quiet_of_same (signed_ob _ _)))
              generalize hwy : World.drewN _ _ = wy
              have HKY := Lib.hid (HQ.out wy (by subst hwy; exact Go.Joins.below_draws _ _ _))
              clear hwy HQ
              by_cases ha : ra = wrap32 ra
              · have ha2 : (ra != wrap32 ra) = false := bne_eq_false_iff_eq.2 ha
                have HX := Lib.hid (HN0.out ha)
                clear ha
                go_wp2
                go_ret
                exact ⟨ret_int HX.out.symm, HKY.out⟩
              · have ha2 : (ra != wrap32 ra) = true := bne_iff_ne.2 ha
                have HX := Lib.hid (HN3.out ha)
                clear ha
                go_wp2
                go_ret
                exact ⟨ret_int HX.out.symm, HKY.out⟩
          · have n1 : (rn == []) = false := by simpa using hn0
            have n2 : nameR rn = true := by
              cases h : nameR rn
              · exact absurd ⟨hn0, h⟩ hn
              · rfl
            rw [n2] at hnm
            clear hn hn0 n2
            rcases hzz with rfl | rfl
            all_goals
              have hal2 : (rp % _ != 0) = false := bne_eq_false_iff_eq.2 hal
              go_enter Tryz.func95, Tryz.ntmps95
              go_wp2_with (go_at_call 94; refine (hnm _).mono ?_; rintro e w' ⟨rfl, rfl⟩)
              go_quiet ((go_at_call 132; exact Calls.quiet_of_same (signed_ob _ _)))
              generalize hwy : World.drewN _ _ = wy
              have HKY := Lib.hid (HQ.out wy (by subst hwy; exact Go.Joins.below_draws _ _ _))
              clear hwy HQ
              by_cases ha : ra = wrap32 ra
              · have ha2 : (ra != wrap32 ra) = false := bne_eq_false_iff_eq.2 ha
                have HX := Lib.hid (HN0.out ha)
                clear ha
                go_wp2
                go_ret
                exact ⟨ret_int HX.out.symm, HKY.out⟩
              · have ha2 : (ra != wrap32 ra) = true := bne_iff_ne.2 ha
                have HX := Lib.hid (HN3.out ha)
                clear ha
                go_wp2
                go_ret
                exact ⟨ret_int HX.out.symm, HKY.out⟩
      · have HX : Hid (E = 11) := by unfold Hid; rw [HE.out]; unfold relErr; rw [if_neg (by simp only; omega), if_neg hpp, if_pos hal]
        clear hpp
        rcases hzz with rfl | rfl
        all_goals
          have hal2 : (rp % _ != 0) = true := bne_iff_ne.2 hal
          go_enter Tryz.func95, Tryz.ntmps95
          go_wp2
          go_ret
          exact ⟨ret_int HX.out.symm, oalloc _ _⟩

set_option maxHeartbeats 4000000 in
theorem wrels_any (l : List Re) (len : Nat) (v : Value) (w : World) (hv : ORels w v l) (hlen : len ≤ 8000) (hll : l.length ≤ 16001) :
    Calls Tryz.prog 77 #[v, .int .i64 (len : Int)] w fun e w' => e = .returned (.int .i64 (relsErr nameR len 0 l)) ∧ Below w.heap.size w w' := by
  obtain ⟨rad, rcap, rfl, hrm, hrc⟩ := hv
  have HRC : Hid (0 < l.length → ∃ b f, rad = some ⟨b, f, none⟩ ∧ b < w.heap.size ∧ ∀ i (h : i < l.length),
    w.cell? ⟨b, f + i * 4, none⟩ = some (.int .i64 l[i].pos) ∧ w.cell? ⟨b, f + i * 4 + 1, none⟩ = some (.int .i64 l[i].size) ∧
    w.cell? ⟨b, f + i * 4 + 2, none⟩ = some (.string ⟨l[i].name.toArray⟩) ∧ w.cell? ⟨b, f + i * 4 + 3, none⟩ = some (.int .i64 l[i].add)) := hrc
  clear hrc hrm
  obtain ⟨E, hE⟩ : ∃ E, E = relsErr nameR len 0 l := ⟨_, rfl⟩
  rw [← hE]
  have HE0 := Lib.hid hE
  clear hE
  go_enter Tryz.func77, Tryz.ntmps77
  go_wp2
  go_loopw [5, 11] (fun fr i wr => ∃ (k : Nat) (last : Int), k ≤ l.length ∧ i = .int .i64 k ∧ fr = .int .i64 last ∧ 0 ≤ last ∧ last ≤ 8004 ∧ Below w.heap.size w wr ∧ Hid (E = relsErr nameR len last (l.drop k))) (fun _ i _ => l.length - (intOf i).toNat)
  case atStart => exact ⟨0, 0, Nat.zero_le _, rfl, rfl, by decide, by decide, Below.refl _ _, HE0⟩
  case round =>
    obtain ⟨k, last, hk, rfl, rfl, hl0, hl1, hbel, HE⟩ := hrel
    clear HE0
    by_cases hlt : k < l.length
    · have hk1 : (k : Int) < l.length := by omega
      obtain ⟨b, f, rfl, hbl, hcell⟩ := HRC.out (by omega)
      obtain ⟨c0, c1, c2, c3⟩ := hcell k hlt
      rw [← hbel.cell (by exact hbl)] at c0 c1 c2 c3
      have HAT := Lib.hid (relsErr_at (nm := nameR) (len := len) (last := last) hlt)
      clear hcell
      have HB := Lib.hid hbel
      have hsz := hbel.size
      clear hbel
      generalize l[k] = r at *
      have hcall := fun W => wrel_any r last len W hl0 hlen
      have HOKB : Hid (relErr nameR len last r = 0 → 0 ≤ r.pos ∧ r.pos ≤ 8000 ∧ (r.size = 2 ∨ r.size = 4)) := fun h => by
        have h1 := relErr_ok h
        exact ⟨by omega, h1.2.2.1, h1.1⟩
      obtain ⟨rp, rz, rn, ra⟩ := r
      simp only [relV] at c0 c1 c2 c3 hcall
      obtain ⟨e0, he0⟩ : ∃ e0, e0 = relErr nameR len last ⟨rp, rz, rn, ra⟩ := ⟨_, rfl⟩
      rw [← he0] at hcall
      have HAT2 : Hid (E = if e0 = 0 then relsErr nameR len (rp + rz) (l.drop (k + 1)) else e0) := by unfold Hid; rw [he0, HE.out, HAT.out]
      have HOK2 : Hid (e0 = 0 → 0 ≤ rp ∧ rp ≤ 8000 ∧ (rz = 2 ∨ rz = 4)) := fun h => HOKB.out (he0 ▸ h)
      clear HAT HE HOKB he0
      have hba := Lib.hid (oalloc wr (.cells #[.int .i64 rp, .int .i64 rz, .string ⟨rn.toArray⟩, .int .i64 ra] 113))
      by_cases h0 : e0 = 0
      · subst h0
        obtain ⟨q0, q1, q2⟩ := HOK2.out rfl
        have HX : Hid (E = relsErr nameR len (rp + rz) (l.drop (k + 1))) := by unfold Hid; rw [HAT2.out, if_pos rfl]
        clear HAT2 HOK2
        have hbig : rp + rz ≤ 8004 := by omega
        have hbig0 : 0 ≤ rp + rz := by omega
        clear q0 q1 q2
        have HNX : Hid (∀ w2, Below (wr.heap.size + 1) (wr.alloc (.cells #[.int .i64 rp, .int .i64 rz, .string ⟨rn.toArray⟩, .int .i64 ra] 113)) w2 → Below w.heap.size w w2 ∧ w2.cell? ⟨wr.heap.size, 0, none⟩ = some (.int .i64 rp) ∧ w2.cell? ⟨wr.heap.size, 1, none⟩ = some (.int .i64 rz)) := fun w2 h2 =>
          ⟨(HB.out.trans (hba.out.mono hsz)).trans (h2.mono (by omega)), (h2.cell (by show wr.heap.size < wr.heap.size + 1; omega)).trans (by rw [World.cell?_alloc_new]; rfl), (h2.cell (by show wr.heap.size < wr.heap.size + 1; omega)).trans (by rw [World.cell?_alloc_new]; rfl)⟩
        go_wp2_with (go_at_call 95; refine (hcall _).mono ?_; rintro e w2 ⟨rfl, hb2⟩; obtain ⟨hb3, y0, y1⟩ := HNX.out w2 (by simpa using hb2); have HB3 := Lib.hid hb3; clear hb2 hb3)
        exact ⟨⟨k + 1, _, by omega, by go_num, by go_num, by omega, by omega, HB3.out, HX⟩, by simp [intOf]; omega⟩
      · have HX : Hid (E = e0) := by unfold Hid; rw [HAT2.out, if_neg h0]
        have h0b : (e0 != 0) = true := bne_iff_ne.2 h0
        clear h0 HAT2 HOK2
        have HNX : Hid (∀ w2, Below (wr.heap.size + 1) (wr.alloc (.cells #[.int .i64 rp, .int .i64 rz, .string ⟨rn.toArray⟩, .int .i64 ra] 113)) w2 → Below w.heap.size w w2) := fun w2 h2 =>
          (HB.out.trans (hba.out.mono hsz)).trans (h2.mono (by omega))
        go_wp2_with (go_at_call 95; refine (hcall _).mono ?_; rintro e w2 ⟨rfl, hb2⟩; have HB3 := Lib.hid (HNX.out w2 (by simpa using hb2)); clear hb2)
        go_ret
        exact ⟨ret_int HX.out.symm, HB3.out⟩
    · have hk1 : ¬ (k : Int) < l.length := by omega
      have HX : Hid (E = 0) := by unfold Hid; rw [HE.out, relsErr_end (by omega)]
      clear HE
      go_wp2
      go_ret
      exact ⟨ret_int HX.out.symm, hbel⟩

end Go.Proofs.YtbpoiajpcahdhaaGreatDoor.Li

namespace Go.Proofs.YtbpoiajpcahdhaaGreatDoor.Li
open Go.RowKit Go.Maps Go.MapKept

theorem lawS : Keyed Tryz.prog 9 := string_keyed Tryz.underlying9
theorem zeroU (w : World) : (zeroValue 183).run Tryz.prog w = .ok (.agg #[]) w := by kernel_rfl

/-- The set of the names of syms. -/
def nameSet (l : List Sy) : DataW Unit := setOf (.agg []) (l.map fun s => Lit.string s.name)
theorem nameSet_snoc (l : List Sy) (s : Sy) : nameSet (l ++ [s]) = (nameSet l).put (.string s.name) (.agg []) := by
  unfold nameSet
  rw [List.map_append, List.map_singleton, setOf_snoc]
theorem sameKey_str (a b : List UInt8) : (Lit.string a).sameKey (.string b) = decide (a = b) := by
  by_cases h : a = b
  · subst h
    rw [WideAt.sameKey_self (by trivial)]
    simp
  · rw [sameKey_ne (fun e => h (by injection e))]
    simp [h]
theorem has_nameSet (l : List Sy) (n : List UInt8) : Maps.has (nameSet l) (.string n) = l.any (fun t => decide (t.name = n)) := by
  unfold nameSet
  rw [has_setOf _ _ _ (fun y hy => by obtain ⟨_, _, rfl⟩ := List.mem_map.1 hy; trivial), List.any_map]
  congr 1
  funext t
  exact sameKey_str _ _

theorem syms_err {l : List Sy} {len k : Nat} {E e : Int} (hk : k < l.length) (hE : E = symsErr nameR len (l.take k) (l.drop k)) (he : symErr nameR len (l.take k) l[k] = e) (h0 : e ≠ 0) : E = e := by
  rw [hE, symsErr_at hk, he, if_neg h0]

set_option maxRecDepth 100000 in
set_option maxHeartbeats 8000000 in
theorem wsyms_any (l : List Sy) (len : Nat) (v : Value) (w : World) (hv : OSyms w v l) (_hlen : len ≤ 8000) (hll : l.length ≤ 256) (hnl : ∀ s, s ∈ l → s.name.length ≤ maxLen) :
    Calls Tryz.prog 76 #[v, .int .i64 (len : Int)] w fun e w' => e = .returned (.int .i64 (symsErr nameR len [] l)) ∧ Below w.heap.size w w' := by
  obtain ⟨sad, scap, rfl, hsm, hsc⟩ := hv
  have HSC : Hid (0 < l.length → ∃ b f, sad = some ⟨b, f, none⟩ ∧ b < w.heap.size ∧ ∀ i (h : i < l.length),
    w.cell? ⟨b, f + i * 2, none⟩ = some (.string ⟨l[i].name.toArray⟩) ∧ w.cell? ⟨b, f + i * 2 + 1, none⟩ = some (.int .i64 l[i].pos)) := hsc
  clear hsc hsm
  have HNL := Lib.hid hnl
  clear hnl
  obtain ⟨E, hE⟩ : ∃ E, E = symsErr nameR len [] l := ⟨_, rfl⟩
  rw [← hE]
  have HE0 := Lib.hid hE
  clear hE
  have hmm := @run_makeMap Tryz.prog
  go_enter Tryz.func76, Tryz.ntmps76
  go_wp2
  go_loopw [13] (fun i wr => ∃ (k : Nat), k ≤ l.length ∧ i = .int .i64 k ∧ Hid (Below w.heap.size w wr) ∧ w.heap.size < wr.heap.size ∧ wr.ownsMap Tryz.prog 9 unitElem w.heap.size k (nameSet (l.take k)) ∧ Hid (E = symsErr nameR len (l.take k) (l.drop k))) (fun i _ => l.length - (intOf i).toNat)
  case atStart => exact ⟨0, Nat.zero_le _, rfl, (Below.refl _ _).alloc (Nat.le_refl _) _, by simp, World.ownsMap_made _ _ _ _, HE0⟩
  case round =>
    obtain ⟨k, hk, rfl, HB, hws, hown, HE⟩ := hrel
    clear HE0
    by_cases hlt : k < l.length
    · have hk1 : (k : Int) < l.length := by omega
      obtain ⟨b, f, rfl, hbl, hcell⟩ := HSC.out (by omega)
      obtain ⟨c0, c1⟩ := hcell k hlt
      rw [← HB.out.cell (by exact hbl)] at c0 c1
      clear hcell
      obtain ⟨s, hs⟩ : ∃ s, s = l[k] := ⟨_, rfl⟩
      rw [← hs] at c0 c1
      have HS := Lib.hid hs
      have hnlen : s.name.length ≤ maxLen := HNL.out s (hs ▸ List.getElem_mem hlt)
      clear hs
      have hkey : keyOf Tryz.prog 9 (.string ⟨s.name.toArray⟩) = some (.string s.name) := Go.WideMaps.keyOf_string_mk Tryz.underlying9 (s := ⟨s.name.toArray⟩) (by simpa [ByteArray.size] using hnlen)
      have hnm : ∀ W, Calls Tryz.prog 94 #[.string ⟨s.name.toArray⟩] W fun e w' => e = .returned (.bool (nameR s.name)) ∧ W = w' := fun W => name_same ⟨s.name.toArray⟩ W
      have hhas := has_nameSet (l.take k) s.name
      have HSN : Hid (nameSet (l.take (k + 1)) = (nameSet (l.take k)).put (.string s.name) (.agg [])) := by
        unfold Hid
        rw [List.take_succ_eq_append_getElem hlt, ← HS.out, nameSet_snoc]
      obtain ⟨D, hD⟩ : ∃ D, D = nameSet (l.take k) := ⟨_, rfl⟩
      rw [← hD] at hown hhas
      have HD := Lib.hid hD
      clear hD hnlen
      have HBB : Hid (Below w.heap.size w ((wr.alloc (.cells #[.string ⟨s.name.toArray⟩, .int .i64 s.pos] 110)).alloc (.cells #[] 183))) := (HB.out.alloc HB.out.size _).alloc (by simp; omega) _
      cases hT : (l.take k).any (fun t => decide (t.name = s.name))
      · rw [hT] at hhas
        cases hN : nameR s.name
        · have HX : Hid (E = 7) := syms_err hlt HE.out (by unfold symErr; rw [← HS.out, if_pos hN]) (by decide)
          rw [hN] at hnm
          clear HE
          go_wp2_with (first | (at_lookup; refine wpList_lookup_own_unit _ rfl _ _ 182 rfl 9 183 lawS Tryz.underlying182 (zeroU _) w.heap.size k _ rfl (hown.alloc _) _ _ rfl hkey ?_; rw [hhas]) | (go_at_call 94; refine (hnm _).mono ?_; rintro e w' ⟨rfl, rfl⟩) | go_in)
          go_ret
          exact ⟨ret_int HX.out.symm, HBB.out⟩
        · rw [hN] at hnm
          by_cases hp0 : s.pos < 0
          · have HX : Hid (E = 3) := syms_err hlt HE.out (by unfold symErr; rw [← HS.out, if_neg (by rw [hN]; decide), if_neg (by rw [hT]; decide), if_pos (.inl hp0)]) (by decide)
            clear HE
            go_wp2_with (first | (at_lookup; refine wpList_lookup_own_unit _ rfl _ _ 182 rfl 9 183 lawS Tryz.underlying182 (zeroU _) w.heap.size k _ rfl (hown.alloc _) _ _ rfl hkey ?_; rw [hhas]) | (go_at_call 94; refine (hnm _).mono ?_; rintro e w' ⟨rfl, rfl⟩) | go_in)
            go_ret
            exact ⟨ret_int HX.out.symm, HBB.out⟩
          · by_cases hp1 : (len : Int) < s.pos
            · have HX : Hid (E = 3) := syms_err hlt HE.out (by unfold symErr; rw [← HS.out, if_neg (by rw [hN]; decide), if_neg (by rw [hT]; decide), if_pos (.inr hp1)]) (by decide)
              clear HE
              go_wp2_with (first | (at_lookup; refine wpList_lookup_own_unit _ rfl _ _ 182 rfl 9 183 lawS Tryz.underlying182 (zeroU _) w.heap.size k _ rfl (hown.alloc _) _ _ rfl hkey ?_; rw [hhas]) | (go_at_call 94; refine (hnm _).mono ?_; rintro e w' ⟨rfl, rfl⟩) | go_in)
              go_ret
              exact ⟨ret_int HX.out.symm, HBB.out⟩
            · have HX : Hid (E = symsErr nameR len (l.take (k + 1)) (l.drop (k + 1))) := by
                unfold Hid
                rw [HE.out, symsErr_at hlt, if_pos]
                unfold symErr
                rw [← HS.out, if_neg (by rw [hN]; decide), if_neg (by rw [hT]; decide), if_neg (by omega)]
              clear HE
              go_wp2_with (first | (at_lookup; refine wpList_lookup_own_unit _ rfl _ _ 182 rfl 9 183 lawS Tryz.underlying182 (zeroU _) w.heap.size k _ rfl (hown.alloc _) _ _ rfl hkey ?_; rw [hhas]) | (go_at_call 94; refine (hnm _).mono ?_; rintro e w' ⟨rfl, rfl⟩) | (at_mapUpdate; refine wpList_mapUpdate_own _ rfl _ _ _ 182 rfl 9 183 lawS Tryz.underlying182 (unitElem (H := Unit)) w.heap.size k _ rfl ((hown.alloc _).alloc _) (by unfold maxLen; omega) _ _ _ rfl rfl hkey _ [] unitElem_mk ?_; intro w1 hown1 hgrow1) | go_in)
              have s1 := hgrow1.size
              simp at s1
              exact ⟨⟨k + 1, by omega, by go_num, HBB.out.grown hgrow1 (by simp; omega) (fun j hj => by cases hj; exact Nat.le_refl _), by omega, by rw [HSN.out, ← HD.out]; exact hown1, HX⟩, by simp [intOf]; omega⟩
      · rw [hT] at hhas
        have HX : Hid (E = 7) := syms_err hlt HE.out (by
          unfold symErr
          rw [← HS.out]
          split
          · rfl
          · first | rfl | rw [if_pos hT]) (by decide)
        clear HE
        go_wp2_with (first | (at_lookup; refine wpList_lookup_own_unit _ rfl _ _ 182 rfl 9 183 lawS Tryz.underlying182 (zeroU _) w.heap.size k _ rfl (hown.alloc _) _ _ rfl hkey ?_; rw [hhas]) | (go_at_call 94; refine (hnm _).mono ?_; rintro e w' ⟨rfl, rfl⟩) | go_in)
        go_ret
        exact ⟨ret_int HX.out.symm, HBB.out⟩
    · have hk1 : ¬ (k : Int) < l.length := by omega
      have HX : Hid (E = 0) := by unfold Hid; rw [HE.out, symsErr_end (by omega)]
      clear HE
      go_wp2
      go_ret
      exact ⟨ret_int HX.out.symm, HB.out⟩

set_option maxHeartbeats 4000000 in
theorem wrong_any (o : Ob) (cv sv rv : Value) (w : World) (hC : OBytes w cv o.code) (hS : OSyms w sv o.syms) (hR : ORels w rv o.rels) (hnl : ∀ s, s ∈ o.syms → s.name.length ≤ maxLen) :
    Calls Tryz.prog 63 #[obV cv sv rv] w fun e w' => e = .returned (.int .i64 (wrongO nameR o)) ∧ Below w.heap.size w w' := by
  have hS2 := fun (h1 : o.code.length ≤ 8000) (h2 : o.syms.length ≤ 256) (W : World) (hb : Below w.heap.size w W) => wsyms_any o.syms o.code.length sv W (hS.below hb (Nat.le_refl _)) h1 h2 hnl
  have hR2 := fun (h1 : o.code.length ≤ 8000) (h2 : o.rels.length ≤ 16001) (W : World) (hb : Below w.heap.size w W) => wrels_any o.rels o.code.length rv W (hR.below hb (Nat.le_refl _)) h1 h2
  clear hnl
  obtain ⟨cad, ccap, rfl, hcm, z1⟩ := hC
  obtain ⟨sad, scap, rfl, hsm, z2⟩ := hS
  obtain ⟨rad, rcap, rfl, hrm, z3⟩ := hR
  clear z1 z2 z3
  unfold maxLen at hcm hsm hrm
  unfold obV
  by_cases h : 8000 < o.code.length ∨ 255 < o.syms.length ∨ 16000 < o.rels.length
  · have HX : Hid (wrongO nameR o = 4) := by unfold Hid wrongO; rw [if_pos h]
    clear hS2 hR2
    by_cases h1 : (8000 : Int) < o.code.length
    · clear h
      go_enter Tryz.func63, Tryz.ntmps63
      go_wp2
      go_ret
      exact ⟨ret_int HX.out.symm, oalloc _ _⟩
    · by_cases h2 : (255 : Int) < o.syms.length
      · clear h
        go_enter Tryz.func63, Tryz.ntmps63
        go_wp2
        go_ret
        exact ⟨ret_int HX.out.symm, oalloc _ _⟩
      · have h3 : (16000 : Int) < o.rels.length := by omega
        clear h
        go_enter Tryz.func63, Tryz.ntmps63
        go_wp2
        go_ret
        exact ⟨ret_int HX.out.symm, oalloc _ _⟩
  · have HW : Hid (wrongO nameR o = if symsErr nameR o.code.length [] o.syms = 0 then relsErr nameR o.code.length 0 o.rels else symsErr nameR o.code.length [] o.syms) := by unfold Hid wrongO; rw [if_neg h]
    have h1 : ¬ (8000 : Int) < o.code.length := by omega
    have h2 : ¬ (255 : Int) < o.syms.length := by omega
    have h3 : ¬ (16000 : Int) < o.rels.length := by omega
    have HS2 := Lib.hid (hS2 (by omega) (by omega))
    have HR2 := Lib.hid (hR2 (by omega) (by omega))
    clear h hS2 hR2
    generalize symsErr nameR o.code.length [] o.syms = es at *
    generalize relsErr nameR o.code.length 0 o.rels = er at *
    have HNX : Hid (∀ w2, Below (w.heap.size + 1) (w.alloc (.cells #[.slice cad o.code.length ccap, .slice sad o.syms.length scap, .slice rad o.rels.length rcap] 94)) w2 → Below w.heap.size w w2 ∧ w2.cell? ⟨w.heap.size, 0, none⟩ = some (.slice cad o.code.length ccap) ∧ w2.cell? ⟨w.heap.size, 2, none⟩ = some (.slice rad o.rels.length rcap)) := fun w2 h2 =>
      ⟨(oalloc _ _).trans (h2.mono (by omega)), (h2.cell (by show w.heap.size < w.heap.size + 1; omega)).trans (by rw [World.cell?_alloc_new]; rfl), (h2.cell (by show w.heap.size < w.heap.size + 1; omega)).trans (by rw [World.cell?_alloc_new]; rfl)⟩
    by_cases h0 : es = 0
    · subst h0
      have HX : Hid (wrongO nameR o = er) := by unfold Hid; rw [HW.out, if_pos rfl]
      clear HW
      go_enter Tryz.func63, Tryz.ntmps63
      go_wp2_with (first | (go_at_call 76; refine (HS2.out _ (oalloc _ _)).mono ?_; rintro e w2 ⟨rfl, hb2⟩; obtain ⟨hb3, y0, y1⟩ := HNX.out w2 (by simpa using hb2); have HB3 := Lib.hid hb3; clear hb2 hb3) | (go_at_call 77; refine (HR2.out _ HB3.out).mono ?_; rintro e w3 ⟨rfl, hb3⟩; have HB4 := Lib.hid (HB3.out.trans (hb3.mono HB3.out.size)); clear hb3))
      go_ret
      exact ⟨ret_int HX.out.symm, HB4.out⟩
    · have HX : Hid (wrongO nameR o = es) := by unfold Hid; rw [HW.out, if_neg h0]
      have h0b : (es != 0) = true := bne_iff_ne.2 h0
      clear h0 HW
      go_enter Tryz.func63, Tryz.ntmps63
      go_wp2_with (go_at_call 76; refine (HS2.out _ (oalloc _ _)).mono ?_; rintro e w2 ⟨rfl, hb2⟩; obtain ⟨hb3, y0, y1⟩ := HNX.out w2 (by simpa using hb2); have HB3 := Lib.hid hb3; clear hb2 hb3)
      go_ret
      exact ⟨ret_int HX.out.symm, HB3.out⟩

end Go.Proofs.YtbpoiajpcahdhaaGreatDoor.Li

namespace Go.Proofs.YtbpoiajpcahdhaaGreatDoor.Li
open Go.RowKit

/-! Rows of cells that lists are in memory. -/
def bcells (l : List UInt8) : List Value := l.map fun c => .int .u8 (c.toNat : Int)
theorem bcells_len (l : List UInt8) : (bcells l).length = l.length * 1 := by simp [bcells]
theorem bcells_one (l : List UInt8) : ∀ v ∈ bcells l, v.oneCell' = true := by
  intro v hv
  obtain ⟨c, _, rfl⟩ := List.mem_map.1 hv
  rfl
theorem addr_add (b o j : Nat) : (⟨b, o, none⟩ : Addr).add j = ⟨b, o + j, none⟩ := by unfold Addr.add; split <;> simp_all

/-- Where the cells of a row lie. -/
def SrcOf (w : World) (ad : Option Addr) (n : Nat) (cs : List Value) : Prop := 0 < n → ∃ b o, ad = some ⟨b, o, none⟩ ∧ b < w.heap.size ∧ ∀ j v, cs[j]? = some v → w.cell? ⟨b, o + j, none⟩ = some v
theorem SrcOf.below {w w' : World} {B : Nat} {ad : Option Addr} {n : Nat} {cs : List Value} (h : SrcOf w ad n cs) (hb : Below B w w') (hB : w.heap.size ≤ B) : SrcOf w' ad n cs := fun h0 => by
  obtain ⟨b, o, rfl, hl, hc⟩ := h h0
  exact ⟨b, o, rfl, Nat.lt_of_lt_of_le hl hb.size, fun j v hj => by rw [hb.cell (by show b < B; omega)]; exact hc j v hj⟩

theorem OBytes.src {w : World} {v : Value} {l : List UInt8} (h : OBytes w v l) : ∃ ad cap, v = .slice ad l.length cap ∧ SrcOf w ad l.length (bcells l) := by
  obtain ⟨ad, cap, rfl, _, hc⟩ := h
  refine ⟨ad, cap, rfl, fun h0 => ?_⟩
  obtain ⟨b, o, rfl, hl, hcs⟩ := hc h0
  refine ⟨b, o, rfl, hl, fun j v hj => ?_⟩
  obtain ⟨hj1, hj2⟩ := List.getElem?_eq_some_iff.1 hj
  have hj3 : j < l.length := by simpa [bcells] using hj1
  rw [hcs j hj3, ← hj2]
  simp [bcells]
/-! Copies. -/
theorem infoB : (Tryz.prog.info? 5).map (fun i => (i.zero, i.size, i.bytes)) = some (some (.int .u8 0), 1, 1) := by kernel_rfl
theorem makeB (n : Nat) (hn : n * 1 ≤ 140737488355328) (w : World) : (Instr.makeSlice 36 (.int .i64 (n : Int)) (.int .i64 (n : Int))).run Tryz.prog w = .ok (.slice (some ⟨w.heap.size, 0, none⟩) n n) (w.alloc (.cells (madeCells #[.int .u8 0] (n * 1)) 5)) := by
  obtain ⟨i, hi, hz0, hz1, hz2⟩ := info_parts infoB
  have := run_make (P := Tryz.prog) w 36 5 i _ Tryz.underlying36 hi hz0 .i64 .i64 (n : Int) (n : Int) (by omega) (by omega) (by rw [hz2]; omega) (by omega)
  rw [hz1] at this
  exact this
end Go.Proofs.YtbpoiajpcahdhaaGreatDoor.Li

namespace Go.Proofs.YtbpoiajpcahdhaaGreatDoor.Li
open Go.RowKit

end Go.Proofs.YtbpoiajpcahdhaaGreatDoor.Li
