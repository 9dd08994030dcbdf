/- The contracts of the program's own wrongReloc, wrongRelocs, wrongSyms and Wrong of an object. -/
import Derived.Test.YtalghejeekajgadOcName
import Derived.Test.YtalghejeekajgadOcIsa
import Derived.Maps.OwnSet
namespace Go.Proofs.Ytalghejeekajgad
open Go.RowKit Go.Maps

theorem name_same (s : ByteArray) (w : World) :
    Calls Try.prog 39 #[.string s] w fun e w' => e = .returned (.bool (nameR s.data.toList)) ∧ w = w' :=
  (name_any s w).mono fun _ _ h => ⟨h.1, h.2.symm⟩
theorem signed_ob (n : Int) (w : World) :
    Calls Try.prog 44 #[.int .i64 n] w fun e w' => e = .returned (.int .i64 (wrap32 n)) ∧ w' = w :=
  (Oi.signed_any n w).mono fun _ _ h => ⟨h.1.trans (ret_int (by unfold wrap32 wrap64; omega)), h.2⟩

/-- A sym, a reloc as a value. -/
def symV (s : Sy) : Value := .agg #[.string ⟨s.name.toArray⟩, .int .i64 s.pos]
def relV (r : Re) : Value := .agg #[.int .i64 r.pos, .int .i64 r.size, .string ⟨r.name.toArray⟩, .int .i64 r.add]

set_option maxHeartbeats 4000000 in
theorem wrel_any (r : Re) (last : Int) (len : Nat) (w : World) (hl0 : 0 ≤ last) (hlen : len ≤ 8000) :
    Calls Try.prog 40 #[relV r, .int .i64 last, .int .i64 (len : Int)] w fun e w' => e = .returned (.int .i64 (relErr nameR len last r)) ∧ Below w.heap.size w w' := by
  obtain ⟨rp, rz, rn, ra⟩ := r
  unfold relV
  simp only
  have hnm : ∀ W, Calls Try.prog 39 #[.string ⟨rn.toArray⟩] W fun e w' => e = .returned (.bool (nameR rn)) ∧ W = w' := fun W => name_same ⟨rn.toArray⟩ W
  obtain ⟨E, hE⟩ : ∃ E, E = relErr nameR len last ⟨rp, rz, rn, ra⟩ := ⟨_, rfl⟩
  rw [← hE]
  have HE := Lib.hid hE
  clear hE
  by_cases hz24 : rz ≠ 2 ∧ rz ≠ 4
  · have e2 : (rz != 2) = true := by simpa using hz24.1
    have e4 : (rz != 4) = true := by simpa using hz24.2
    have HX : Hid (E = 1) := by unfold Hid; rw [HE.out]; unfold relErr; rw [if_pos hz24]
    clear hz24
    go_enter Try.func40, Try.ntmps40
    go_wp2
    go_ret
    exact ⟨ret_int HX.out.symm, oalloc _ _⟩
  · have hzz : rz = 2 ∨ rz = 4 := by omega
    clear hz24
    by_cases hp : rp < last ∨ (len : Int) - rz < rp
    · have HX : Hid (E = 3) := by unfold Hid; rw [HE.out]; unfold relErr; rw [if_neg (by simp only; omega), if_pos (by simp only; omega)]
      rcases hzz with rfl | rfl
      all_goals
        by_cases hp1 : rp < last
        · clear hp
          go_enter Try.func40, Try.ntmps40
          go_wp2
          go_ret
          exact ⟨ret_int HX.out.symm, oalloc _ _⟩
        · have hp2 := hp.resolve_left hp1
          clear hp
          go_enter Try.func40, Try.ntmps40
          go_wp2
          go_ret
          exact ⟨ret_int HX.out.symm, oalloc _ _⟩
    · have hp1 : ¬ rp < last := fun h => hp (.inl h)
      have hp2 : ¬ (len : Int) - rz < rp := fun h => hp (.inr h)
      have hrp : 0 ≤ rp := by omega
      have hpp : ¬ (rp < last ∨ 8000 < rp ∨ (len : Int) < rp + rz) := by omega
      clear hp
      by_cases hal : rp % rz = 0
      · by_cases hn : rn ≠ [] ∧ nameR rn = false
        · have HX : Hid (E = 7) := by unfold Hid; rw [HE.out]; unfold relErr; rw [if_neg (by simp only; omega), if_neg hpp, if_neg (by simpa using hal), if_pos hn]
          have n1 : (rn == []) = false := by simpa using hn.1
          rw [hn.2] at hnm
          clear hn hpp
          rcases hzz with rfl | rfl
          all_goals
            have hal2 : (rp % _ != 0) = false := bne_eq_false_iff_eq.2 hal
            go_enter Try.func40, Try.ntmps40
            go_wp2_with (go_at_call 39; refine (hnm _).mono ?_; rintro e w' ⟨rfl, rfl⟩)
            go_ret
            exact ⟨ret_int HX.out.symm, oalloc _ _⟩
        · have HN0 : Hid (ra = wrap32 ra → E = 0) := fun ha => by
            rw [HE.out]; unfold relErr; rw [if_neg (by simp only; omega), if_neg hpp, if_neg (by simpa using hal), if_neg hn, if_neg (by simpa using ha)]
          have HN3 : Hid (ra ≠ wrap32 ra → E = 3) := fun ha => by
            rw [HE.out]; unfold relErr; rw [if_neg (by simp only; omega), if_neg hpp, if_neg (by simpa using hal), if_neg hn, if_pos ha]
          have HQ : Hid (∀ wy, Below (w.heap.size + 1) (w.alloc (.cells #[.int .i64 rp, .int .i64 rz, .string ⟨rn.toArray⟩, .int .i64 ra] 51)) wy → Below w.heap.size w wy) := fun wy hby => (oalloc _ _).trans (hby.mono (Nat.le_succ _))
          clear hpp
          by_cases hn0 : rn = []
          · have n1 : (rn == []) = true := by simpa using hn0
            clear hn hn0 hnm
            rcases hzz with rfl | rfl
            all_goals
              have hal2 : (rp % _ != 0) = false := bne_eq_false_iff_eq.2 hal
              go_enter Try.func40, Try.ntmps40
              go_wp2
              go_quiet ((go_at_call 44; exact Calls.quiet_of_same (signed_ob _ _)))
              generalize hwy : World.drewN _ _ = wy
              have HKY := Lib.hid (HQ.out wy (by subst hwy; exact Go.Joins.below_draws _ _ _))
              clear hwy HQ
              by_cases ha : ra = wrap32 ra
              · have ha2 : (ra != wrap32 ra) = false := bne_eq_false_iff_eq.2 ha
                have HX := Lib.hid (HN0.out ha)
                clear ha
                go_wp2
                go_ret
                exact ⟨ret_int HX.out.symm, HKY.out⟩
              · have ha2 : (ra != wrap32 ra) = true := bne_iff_ne.2 ha
                have HX := Lib.hid (HN3.out ha)
                clear ha
                go_wp2
                go_ret
                exact ⟨ret_int HX.out.symm, HKY.out⟩
          · have n1 : (rn == []) = false := by simpa using hn0
            have n2 : nameR rn = true := by
              cases h : nameR rn
              · exact absurd ⟨hn0, h⟩ hn
              · rfl
            rw [n2] at hnm
            clear hn hn0 n2
            rcases hzz with rfl | rfl
            all_goals
              have hal2 : (rp % _ != 0) = false := bne_eq_false_iff_eq.2 hal
              go_enter Try.func40, Try.ntmps40
              go_wp2_with (go_at_call 39; refine (hnm _).mono ?_; rintro e w' ⟨rfl, rfl⟩)
              go_quiet ((go_at_call 44; exact Calls.quiet_of_same (signed_ob _ _)))
              generalize hwy : World.drewN _ _ = wy
              have HKY := Lib.hid (HQ.out wy (by subst hwy; exact Go.Joins.below_draws _ _ _))
              clear hwy HQ
              by_cases ha : ra = wrap32 ra
              · have ha2 : (ra != wrap32 ra) = false := bne_eq_false_iff_eq.2 ha
                have HX := Lib.hid (HN0.out ha)
                clear ha
                go_wp2
                go_ret
                exact ⟨ret_int HX.out.symm, HKY.out⟩
              · have ha2 : (ra != wrap32 ra) = true := bne_iff_ne.2 ha
                have HX := Lib.hid (HN3.out ha)
                clear ha
                go_wp2
                go_ret
                exact ⟨ret_int HX.out.symm, HKY.out⟩
      · have HX : Hid (E = 11) := by unfold Hid; rw [HE.out]; unfold relErr; rw [if_neg (by simp only; omega), if_neg hpp, if_pos hal]
        clear hpp
        rcases hzz with rfl | rfl
        all_goals
          have hal2 : (rp % _ != 0) = true := bne_iff_ne.2 hal
          go_enter Try.func40, Try.ntmps40
          go_wp2
          go_ret
          exact ⟨ret_int HX.out.symm, oalloc _ _⟩

set_option maxHeartbeats 4000000 in
theorem wrels_any (l : List Re) (len : Nat) (v : Value) (w : World) (hv : ORels w v l) (hlen : len ≤ 8000) (hll : l.length ≤ 16001) :
    Calls Try.prog 17 #[v, .int .i64 (len : Int)] w fun e w' => e = .returned (.int .i64 (relsErr nameR len 0 l)) ∧ Below w.heap.size w w' := by
  obtain ⟨rad, rcap, rfl, hrm, hrc⟩ := hv
  have HRC : Hid (0 < l.length → ∃ b f, rad = some ⟨b, f, none⟩ ∧ b < w.heap.size ∧ ∀ i (h : i < l.length),
    w.cell? ⟨b, f + i * 4, none⟩ = some (.int .i64 l[i].pos) ∧ w.cell? ⟨b, f + i * 4 + 1, none⟩ = some (.int .i64 l[i].size) ∧
    w.cell? ⟨b, f + i * 4 + 2, none⟩ = some (.string ⟨l[i].name.toArray⟩) ∧ w.cell? ⟨b, f + i * 4 + 3, none⟩ = some (.int .i64 l[i].add)) := hrc
  clear hrc hrm
  obtain ⟨E, hE⟩ : ∃ E, E = relsErr nameR len 0 l := ⟨_, rfl⟩
  rw [← hE]
  have HE0 := Lib.hid hE
  clear hE
  go_enter Try.func17, Try.ntmps17
  go_wp2
  go_loopw [5, 11] (fun fr i wr => ∃ (k : Nat) (last : Int), k ≤ l.length ∧ i = .int .i64 k ∧ fr = .int .i64 last ∧ 0 ≤ last ∧ last ≤ 8004 ∧ Below w.heap.size w wr ∧ Hid (E = relsErr nameR len last (l.drop k))) (fun _ i _ => l.length - (intOf i).toNat)
  case atStart => exact ⟨0, 0, Nat.zero_le _, rfl, rfl, by decide, by decide, Below.refl _ _, HE0⟩
  case round =>
    obtain ⟨k, last, hk, rfl, rfl, hl0, hl1, hbel, HE⟩ := hrel
    clear HE0
    by_cases hlt : k < l.length
    · have hk1 : (k : Int) < l.length := by omega
      obtain ⟨b, f, rfl, hbl, hcell⟩ := HRC.out (by omega)
      obtain ⟨c0, c1, c2, c3⟩ := hcell k hlt
      rw [← hbel.cell (by exact hbl)] at c0 c1 c2 c3
      have HAT := Lib.hid (relsErr_at (nm := nameR) (len := len) (last := last) hlt)
      clear hcell
      have HB := Lib.hid hbel
      have hsz := hbel.size
      clear hbel
      generalize l[k] = r at *
      have hcall := fun W => wrel_any r last len W hl0 hlen
      have HOKB : Hid (relErr nameR len last r = 0 → 0 ≤ r.pos ∧ r.pos ≤ 8000 ∧ (r.size = 2 ∨ r.size = 4)) := fun h => by
        have h1 := relErr_ok h
        exact ⟨by omega, h1.2.2.1, h1.1⟩
      obtain ⟨rp, rz, rn, ra⟩ := r
      simp only [relV] at c0 c1 c2 c3 hcall
      obtain ⟨e0, he0⟩ : ∃ e0, e0 = relErr nameR len last ⟨rp, rz, rn, ra⟩ := ⟨_, rfl⟩
      rw [← he0] at hcall
      have HAT2 : Hid (E = if e0 = 0 then relsErr nameR len (rp + rz) (l.drop (k + 1)) else e0) := by unfold Hid; rw [he0, HE.out, HAT.out]
      have HOK2 : Hid (e0 = 0 → 0 ≤ rp ∧ rp ≤ 8000 ∧ (rz = 2 ∨ rz = 4)) := fun h => HOKB.out (he0 ▸ h)
      clear HAT HE HOKB he0
      have hba := Lib.hid (oalloc wr (.cells #[.int .i64 rp, .int .i64 rz, .string ⟨rn.toArray⟩, .int .i64 ra] 51))
      by_cases h0 : e0 = 0
      · subst h0
        obtain ⟨q0, q1, q2⟩ := HOK2.out rfl
        have HX : Hid (E = relsErr nameR len (rp + rz) (l.drop (k + 1))) := by unfold Hid; rw [HAT2.out, if_pos rfl]
        clear HAT2 HOK2
        have hbig : rp + rz ≤ 8004 := by omega
        have hbig0 : 0 ≤ rp + rz := by omega
        clear q0 q1 q2
        have HNX : Hid (∀ w2, Below (wr.heap.size + 1) (wr.alloc (.cells #[.int .i64 rp, .int .i64 rz, .string ⟨rn.toArray⟩, .int .i64 ra] 51)) w2 → Below w.heap.size w w2 ∧ w2.cell? ⟨wr.heap.size, 0, none⟩ = some (.int .i64 rp) ∧ w2.cell? ⟨wr.heap.size, 1, none⟩ = some (.int .i64 rz)) := fun w2 h2 =>
          ⟨(HB.out.trans (hba.out.mono hsz)).trans (h2.mono (by omega)), (h2.cell (by show wr.heap.size < wr.heap.size + 1; omega)).trans (by rw [World.cell?_alloc_new]; rfl), (h2.cell (by show wr.heap.size < wr.heap.size + 1; omega)).trans (by rw [World.cell?_alloc_new]; rfl)⟩
        go_wp2_with (go_at_call 40; refine (hcall _).mono ?_; rintro e w2 ⟨rfl, hb2⟩; obtain ⟨hb3, y0, y1⟩ := HNX.out w2 (by simpa using hb2); have HB3 := Lib.hid hb3; clear hb2 hb3)
        exact ⟨⟨k + 1, _, by omega, by go_num, by go_num, by omega, by omega, HB3.out, HX⟩, by simp [intOf]; omega⟩
      · have HX : Hid (E = e0) := by unfold Hid; rw [HAT2.out, if_neg h0]
        have h0b : (e0 != 0) = true := bne_iff_ne.2 h0
        clear h0 HAT2 HOK2
        have HNX : Hid (∀ w2, Below (wr.heap.size + 1) (wr.alloc (.cells #[.int .i64 rp, .int .i64 rz, .string ⟨rn.toArray⟩, .int .i64 ra] 51)) w2 → Below w.heap.size w w2) := fun w2 h2 =>
          (HB.out.trans (hba.out.mono hsz)).trans (h2.mono (by omega))
        go_wp2_with (go_at_call 40; refine (hcall _).mono ?_; rintro e w2 ⟨rfl, hb2⟩; have HB3 := Lib.hid (HNX.out w2 (by simpa using hb2)); clear hb2)
        go_ret
        exact ⟨ret_int HX.out.symm, HB3.out⟩
    · have hk1 : ¬ (k : Int) < l.length := by omega
      have HX : Hid (E = 0) := by unfold Hid; rw [HE.out, relsErr_end (by omega)]
      clear HE
      go_wp2
      go_ret
      exact ⟨ret_int HX.out.symm, hbel⟩

end Go.Proofs.Ytalghejeekajgad
