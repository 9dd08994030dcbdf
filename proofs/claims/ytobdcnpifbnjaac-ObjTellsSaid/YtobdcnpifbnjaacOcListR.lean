/- The contracts of the program's own list of relocs. -/
import Derived.Test.YtobdcnpifbnjaacOcList
namespace Go.Proofs.Ytobdcnpifbnjaac
open Go.RowKit

/-- An entry appended onto one's own list. -/
theorem app_rel {w : World} {base : Nat} {v : Value} {xs : List Re} (ho : w.ownsRow base 41 4 v xs.length (rcells xs)) (hb : base ≤ w.heap.size) (x : Re) (g : Nat) (hg : w.heap[g]? = some (.cells #[.int .i64 x.pos, .int .i64 x.size, .string ⟨x.name.toArray⟩, .int .i64 x.add] 41 (0, 0))) (hl : xs.length ≤ 5000000000) :
    ∃ v' w', (∀ ty, (Builtin.append_ #[24, 24] ty #[v, .slice (some ⟨g, 0, none⟩) 1 1]).run Try.prog w = .ok v' w') ∧ w'.ownsRow base 41 4 v' (xs ++ [x]).length (rcells (xs ++ [x])) ∧ w.grownBy w' v.ownBlock := by
  obtain ⟨i, hi, hz0, hz1, hz2⟩ := info_parts infoR
  obtain ⟨v', w', hr, h2, h3, _⟩ := run_append_own (P := Try.prog) w base 24 0 41 i _ 4 40 Try.underlying24 hi hz0 hz1 hz2 rfl (by decide) v xs.length (rcells xs) ho ⟨g, 0, none⟩ 1 1 [.int .i64 x.pos, .int .i64 x.size, .string ⟨x.name.toArray⟩, .int .i64 x.add] rfl (fun j u hj => by
    rw [addr_add, Nat.zero_add]
    exact cell_of_block hg (by simpa using hj)) (by intro u hu; simp at hu; rcases hu with rfl | rfl | rfl | rfl <;> rfl) (by unfold maxLen; omega) (by omega) hb
  refine ⟨v', w', fun ty => hr, ?_, h3⟩
  have e : rcells (xs ++ [x]) = rcells xs ++ [.int .i64 x.pos, .int .i64 x.size, .string ⟨x.name.toArray⟩, .int .i64 x.add] := by simp [rcells, Re.cells]
  rw [e, List.length_append]
  exact h2

theorem ownR_row {w : World} {base : Nat} {v : Value} {xs : List Re} (h : w.ownsRow base 41 4 v xs.length (rcells xs)) : ORels w v xs := by
  rcases h.2 with ⟨rfl, h0⟩ | ⟨g, cap, cur, rfl, _, hg, hnc, hcm, _, htake⟩
  · exact ⟨none, 0, by rw [h0], by rw [h0]; exact Nat.zero_le _, fun h1 => by omega⟩
  · refine ⟨_, cap, rfl, by omega, fun _ => ⟨g, 0, rfl, (Array.getElem?_eq_some_iff.1 hg).1, fun i hi => ?_⟩⟩
    have hc := h.cells (g := g) rfl
    have ha := rcells_at xs i hi
    have h1 := hc _ _ ha.1
    have h2 := hc _ _ ha.2.1
    have h3 := hc _ _ ha.2.2.1
    have h4 := hc _ _ ha.2.2.2
    rw [addr_add] at h1 h2 h3 h4
    exact ⟨by simpa using h1, by simpa [Nat.add_assoc] using h2, by simpa [Nat.add_assoc] using h3, by simpa [Nat.add_assoc] using h4⟩

/-- What the loop keeps. -/
structure LR (w wr : World) (Q : Nat) (v : Value) (xs : List Re) (l : List UInt8) (s : Bool) : Prop where
  dr : DR wr Q l s
  row : wr.ownsRow w.heap.size 41 4 v xs.length (rcells xs)
  gr : w.grownBy wr (some Q)

theorem LR.done {w wr : World} {Q : Nat} {v : Value} {xs : List Re} {l : List UInt8} {s : Bool} {D : List Re × List UInt8 × Bool} (h : LR w wr Q v (xs.take 16001) l s) (hD : D = (xs, l, s)) : wr.ownsRow w.heap.size 41 4 v (D.1.take 16001).length (rcells (D.1.take 16001)) ∧ DR wr Q D.2.1 D.2.2 ∧ w.grownBy wr (some Q) := by
  rw [hD]
  exact ⟨h.row, h.dr, h.gr⟩

set_option maxHeartbeats 8000000 in
theorem listR_any (Q : Nat) (l : List UInt8) (s : Bool) (w : World) (h : DR w Q l s) :
    Calls Try.prog 26 #[.pointer (some ⟨Q, 0, none⟩), .int .i64 16000, .func (.func 27) #[.pointer (some ⟨Q, 0, none⟩)] #[]] w fun e w' => ∃ v, e = .returned v ∧
      w'.ownsRow w.heap.size 41 4 v ((dMany dRel (dN 4 l s).1 (dN 4 l s).2.1 (dN 4 l s).2.2).1.take 16001).length (rcells ((dMany dRel (dN 4 l s).1 (dN 4 l s).2.1 (dN 4 l s).2.2).1.take 16001)) ∧ DR w' Q (dMany dRel (dN 4 l s).1 (dN 4 l s).2.1 (dN 4 l s).2.2).2.1 (dMany dRel (dN 4 l s).1 (dN 4 l s).2.1 (dN 4 l s).2.2).2.2 ∧ w.grownBy w' (some Q) := by
  have hQ := h.lt
  have hn := dnum4 Q l s w h
  have hlt4 := dN_lt4 l s
  have hent : ∀ args w, (callFunc 27 args).run Try.prog w = .ok (.enter 27 args) w := enters_of Try.func27 (by kernel_rfl) rfl
  obtain ⟨n0, hn0⟩ : ∃ n0, n0 = (dN 4 l s).1 := ⟨_, rfl⟩
  obtain ⟨D, hD⟩ : ∃ D, D = dMany dRel (dN 4 l s).1 (dN 4 l s).2.1 (dN 4 l s).2.2 := ⟨_, rfl⟩
  rw [← hD]
  have HD0 := Lib.hid hD
  rw [← hn0] at hn hlt4 HD0
  clear hD hn0 h
  generalize (dN 4 l s).2 = y at *
  go_enter Try.func26, Try.ntmps26
  go_wp2_with fail
  refine hn.mono ?_
  rintro e w1 ⟨rfl, hd1, hg1⟩
  have HLR1 : Hid (LR w w1 Q (.slice none 0 0) [] y.1 y.2) := ⟨hd1, World.ownsRow_nil _ _ _ _, hg1⟩
  clear hd1 hg1 hn
  go_wp2
  go_loopw [7, 8] (fun v i wr => ∃ (m : Nat) (l' : List UInt8) (s' : Bool) (xs : List Re), m < 4294967296 ∧ i = .int .i64 m ∧ Hid (LR w wr Q v (xs.take 16001) l' s') ∧ Hid (D = (xs ++ (dMany dRel m l' s').1, (dMany dRel m l' s').2))) (fun _ i _ => (intOf i).toNat)
  case atStart => exact ⟨n0, y.1, y.2, [], hlt4, rfl, by simpa using HLR1, by simpa using HD0⟩
  case round =>
    obtain ⟨m, l', s', xs, hm, rfl, HL, HD⟩ := hrel
    clear HLR1 HD0
    obtain ⟨ad, cap, hblk, z⟩ := HL.out.dr.blk
    have c1 : wr.cell? ⟨Q, 1, none⟩ = some (.bool s') := cell_of_block hblk rfl
    clear hblk z
    by_cases hm0 : 0 < m
    · have hm1 : (0 : Int) < m := by omega
      cases s'
      · have HD2 : Hid (D = ((xs ++ [(dRel l' false).1]) ++ (dMany dRel (m - 1) (dRel l' false).2.1 (dRel l' false).2.2).1, (dMany dRel (m - 1) (dRel l' false).2.1 (dRel l' false).2.2).2)) := by
          unfold Hid
          rw [HD.out, dMany_pos _ hm0]
          simp
        have hcall := drel_any Q l' false wr HL.out.dr
        obtain ⟨ad7, cap7, rfl⟩ := row_shape HL.out.row
        obtain ⟨t, ht⟩ : ∃ t, t = xs.take 16001 := ⟨_, rfl⟩
        rw [← ht] at HL
        have hT := Lib.hid ht
        have htl : t.length ≤ 16001 := by rw [ht]; simp; omega
        obtain ⟨x, hx⟩ : ∃ x, x = (dRel l' false).1 := ⟨_, rfl⟩
        rw [← hx] at hcall HD2
        rw [← ht]
        clear hx ht HD
        generalize (dRel l' false).2 = y2 at *
        go_wp2_with fail
        refine hcall.mono ?_
        rintro e w2 ⟨rfl, hd2, hg2⟩
        have HR2 := Lib.hid (((row_far HL.out.row hQ hg2).alloc (.cells #[.int .i64 x.pos, .int .i64 x.size, .string ⟨x.name.toArray⟩, .int .i64 x.add] 41)))
        have HG2 := Lib.hid (ogtrans (ogtrans HL.out.gr hg2) (World.grownBy_alloc w2 (.cells #[.int .i64 x.pos, .int .i64 x.size, .string ⟨x.name.toArray⟩, .int .i64 x.add] 41) (some Q)))
        have HDR2 := Lib.hid (hd2.alloc (.cells #[.int .i64 x.pos, .int .i64 x.size, .string ⟨x.name.toArray⟩, .int .i64 x.add] 41))
        have hz2 : w.heap.size ≤ w2.heap.size := Nat.le_trans HL.out.gr.size hg2.size
        clear hd2 hg2 hcall HL c1
        unfold relV
        by_cases hle : t.length ≤ 16000
        · have hle1 : (t.length : Int) ≤ 16000 := by omega
          have HT2 : Hid ((xs ++ [x]).take 16001 = t ++ [x]) := by
            unfold Hid
            rw [hT.out]
            exact take_more xs x 16000 (by rw [← hT.out]; exact hle)
          obtain ⟨v4, w4, happ, ho4, hg4⟩ := app_rel (HR2.out.alloc (.cells #[.int .i64 x.pos, .int .i64 x.size, .string ⟨x.name.toArray⟩, .int .i64 x.add] 41)) (by simp; omega) x (w2.heap.size + 1) (by have := heap_alloc_new (w2.alloc (.cells #[.int .i64 x.pos, .int .i64 x.size, .string ⟨x.name.toArray⟩, .int .i64 x.add] 41)) (.cells #[.int .i64 x.pos, .int .i64 x.size, .string ⟨x.name.toArray⟩, .int .i64 x.add] 41); simpa using this) (by omega)
          have HA := Lib.hid happ
          have HL4 : Hid (LR w w4 Q v4 ((xs ++ [x]).take 16001) y2.1 y2.2) := by
            have hfar : ∀ j, (Value.slice ad7 t.length cap7).ownBlock = some j → w.heap.size ≤ j := fun j hj => (HR2.out.lt j hj).1
            exact ⟨(HDR2.out.alloc _).grown hg4 (fun j hj => Nat.lt_of_lt_of_le hQ (hfar j hj)), by rw [HT2.out]; exact ho4, ogfar (ogtrans HG2.out (World.grownBy_alloc _ _ _)) hg4 hfar⟩
          clear happ ho4 hg4 HR2 HG2 HDR2 HT2
          go_wp2_with (at_builtin; refine wpList_app_eq rfl _ _ _ _ rfl _ _ rfl rfl HA.out ?_)
          exact ⟨⟨m - 1, _, _, _, by omega, by go_num, HL4, HD2⟩, by simp [intOf]; omega⟩
        · have hle1 : ¬ (t.length : Int) ≤ 16000 := by omega
          have HL4 : Hid (LR w (w2.alloc (.cells #[.int .i64 x.pos, .int .i64 x.size, .string ⟨x.name.toArray⟩, .int .i64 x.add] 41)) Q (.slice ad7 t.length cap7) ((xs ++ [x]).take 16001) y2.1 y2.2) := by
            refine ⟨HDR2.out, ?_, HG2.out⟩
            rw [take_full xs x 16000 (by rw [← hT.out]; exact hle), ← hT.out]
            exact HR2.out
          clear HR2 HG2 HDR2
          go_wp2
          exact ⟨⟨m - 1, _, _, _, by omega, by go_num, HL4, HD2⟩, by simp [intOf]; omega⟩
      · have HE := Lib.hid (HL.out.done (D := D) (by rw [HD.out, dMany_true, List.append_nil]))
        clear HD HL
        go_wp2
        go_ret
        first | exact ⟨_, rfl, HE.out⟩ | exact ⟨_, rfl, by have h := HE.out; simp only [List.length_take] at h; exact h⟩
    · have hm1 : ¬ (0 : Int) < m := by omega
      have hm2 : m = 0 := by omega
      subst hm2
      have HE := Lib.hid (HL.out.done (D := D) (by rw [HD.out, dMany, List.append_nil]))
      clear HD HL hm0
      go_wp2
      go_ret
      first | exact ⟨_, rfl, HE.out⟩ | exact ⟨_, rfl, by have h := HE.out; simp only [List.length_take] at h; exact h⟩

end Go.Proofs.Ytobdcnpifbnjaac
