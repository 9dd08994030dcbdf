/- The contracts of the program's own list of syms. -/
import Derived.Test.YtobdcnpifbnjaacOcSym
namespace Go.Proofs.Ytobdcnpifbnjaac
open Go.RowKit

/-- An entry appended onto one's own list. -/
theorem app_sym {w : World} {base : Nat} {v : Value} {xs : List Sy} (ho : w.ownsRow base 38 2 v xs.length (scells xs)) (hb : base ≤ w.heap.size) (x : Sy) (g : Nat) (hg : w.heap[g]? = some (.cells #[.string ⟨x.name.toArray⟩, .int .i64 x.pos] 38 (0, 0))) (hl : xs.length ≤ 5000000000) :
    ∃ v' w', (∀ ty, (Builtin.append_ #[23, 23] ty #[v, .slice (some ⟨g, 0, none⟩) 1 1]).run Try.prog w = .ok v' w') ∧ w'.ownsRow base 38 2 v' (xs ++ [x]).length (scells (xs ++ [x])) ∧ w.grownBy w' v.ownBlock := by
  obtain ⟨i, hi, hz0, hz1, hz2⟩ := info_parts infoS
  obtain ⟨v', w', hr, h2, h3, _⟩ := run_append_own (P := Try.prog) w base 23 0 38 i _ 2 24 Try.underlying23 hi hz0 hz1 hz2 rfl (by decide) v xs.length (scells xs) ho ⟨g, 0, none⟩ 1 1 [.string ⟨x.name.toArray⟩, .int .i64 x.pos] rfl (fun j u hj => by
    rw [addr_add, Nat.zero_add]
    exact cell_of_block hg (by simpa using hj)) (by intro u hu; simp at hu; rcases hu with rfl | rfl <;> rfl) (by unfold maxLen; omega) (by omega) hb
  refine ⟨v', w', fun ty => hr, ?_, h3⟩
  have e : scells (xs ++ [x]) = scells xs ++ [.string ⟨x.name.toArray⟩, .int .i64 x.pos] := by simp [scells, Sy.cells]
  rw [e, List.length_append]
  exact h2

theorem ownS_row {w : World} {base : Nat} {v : Value} {xs : List Sy} (h : w.ownsRow base 38 2 v xs.length (scells xs)) : OSyms w v xs := by
  rcases h.2 with ⟨rfl, h0⟩ | ⟨g, cap, cur, rfl, _, hg, hnc, hcm, _, htake⟩
  · exact ⟨none, 0, by rw [h0], by rw [h0]; simp, fun h1 => by omega⟩
  · refine ⟨_, cap, rfl, ⟨by omega, hnc⟩, fun _ => ⟨g, 0, rfl, (Array.getElem?_eq_some_iff.1 hg).1, fun i hi => ?_⟩⟩
    have hc := h.cells (g := g) rfl
    have ha := scells_at xs i hi
    have h1 := hc _ _ ha.1
    have h2 := hc _ _ ha.2
    rw [addr_add] at h1 h2
    exact ⟨by simpa using h1, by simpa [Nat.add_assoc] using h2⟩

/-- How the list grows: of more than most one more is kept. -/
theorem take_more {α : Type} (xs : List α) (x : α) (m : Nat) (h : (xs.take (m + 1)).length ≤ m) : (xs ++ [x]).take (m + 1) = xs.take (m + 1) ++ [x] := by
  simp only [List.length_take] at h
  have h1 : xs.length ≤ m := by omega
  rw [List.take_of_length_le (by simp; omega), List.take_of_length_le (by omega)]
theorem take_full {α : Type} (xs : List α) (x : α) (m : Nat) (h : ¬ (xs.take (m + 1)).length ≤ m) : (xs ++ [x]).take (m + 1) = xs.take (m + 1) := by
  simp only [List.length_take] at h
  exact List.take_append_of_le_length (by omega)

theorem row_shape {w : World} {base size n : Nat} {e : TypeId} {v : Value} {xs : List Value} (h : w.ownsRow base e size v n xs) : ∃ ad cap, v = .slice ad n cap := by
  rcases h.2 with ⟨rfl, h0⟩ | ⟨g, cap, cur, rfl, _⟩
  · exact ⟨none, 0, by rw [h0]⟩
  · exact ⟨_, _, rfl⟩
theorem DR.grown {w w' : World} {Q : Nat} {l : List UInt8} {s : Bool} {r : Option Nat} (h : DR w Q l s) (hg : w.grownBy w' r) (hr : ∀ j, r = some j → Q < j) : DR w' Q l s :=
  h.keep fun b hb => hg.block b (Nat.lt_of_le_of_lt hb h.lt) (fun e => by have := hr b e.symm; omega)
theorem row_far {w wr : World} {base size n Q : Nat} {e : TypeId} {v : Value} {xs : List Value} (h : wr.ownsRow base e size v n xs) (hQ : Q < base) (hg : wr.grownBy w (some Q)) : w.ownsRow base e size v n xs :=
  h.kept hg (by
    cases hv : v.ownBlock with
    | none => exact .inl rfl
    | some k => exact .inr (fun e => by cases e; have := (h.lt _ hv).1; omega))
theorem dMany_pos {α : Type} (f : List UInt8 → Bool → α × List UInt8 × Bool) {m : Nat} (hm : 0 < m) (l : List UInt8) : dMany f m l false = ((f l false).1 :: (dMany f (m - 1) (f l false).2.1 (f l false).2.2).1, (dMany f (m - 1) (f l false).2.1 (f l false).2.2).2) := by
  obtain ⟨k, rfl⟩ : ∃ k, m = k + 1 := ⟨m - 1, by omega⟩
  exact dMany_step f k l

/-- What the loop keeps. -/
structure LS (w wr : World) (Q : Nat) (v : Value) (xs : List Sy) (l : List UInt8) (s : Bool) : Prop where
  dr : DR wr Q l s
  row : wr.ownsRow w.heap.size 38 2 v xs.length (scells xs)
  gr : w.grownBy wr (some Q)

theorem LS.done {w wr : World} {Q : Nat} {v : Value} {xs : List Sy} {l : List UInt8} {s : Bool} {D : List Sy × List UInt8 × Bool} (h : LS w wr Q v (xs.take 256) l s) (hD : D = (xs, l, s)) : wr.ownsRow w.heap.size 38 2 v (D.1.take 256).length (scells (D.1.take 256)) ∧ DR wr Q D.2.1 D.2.2 ∧ w.grownBy wr (some Q) := by
  rw [hD]
  exact ⟨h.row, h.dr, h.gr⟩

set_option maxHeartbeats 8000000 in
theorem listS_any (Q : Nat) (l : List UInt8) (s : Bool) (w : World) (h : DR w Q l s) :
    Calls Try.prog 24 #[.pointer (some ⟨Q, 0, none⟩), .int .i64 255, .func (.func 25) #[.pointer (some ⟨Q, 0, none⟩)] #[]] w fun e w' => ∃ v, e = .returned v ∧
      w'.ownsRow w.heap.size 38 2 v ((dMany dSym (dN 4 l s).1 (dN 4 l s).2.1 (dN 4 l s).2.2).1.take 256).length (scells ((dMany dSym (dN 4 l s).1 (dN 4 l s).2.1 (dN 4 l s).2.2).1.take 256)) ∧ DR w' Q (dMany dSym (dN 4 l s).1 (dN 4 l s).2.1 (dN 4 l s).2.2).2.1 (dMany dSym (dN 4 l s).1 (dN 4 l s).2.1 (dN 4 l s).2.2).2.2 ∧ w.grownBy w' (some Q) := by
  have hQ := h.lt
  have hn := dnum4 Q l s w h
  have hlt4 := dN_lt4 l s
  have hent : ∀ args w, (callFunc 25 args).run Try.prog w = .ok (.enter 25 args) w := enters_of Try.func25 (by kernel_rfl) rfl
  obtain ⟨n0, hn0⟩ : ∃ n0, n0 = (dN 4 l s).1 := ⟨_, rfl⟩
  obtain ⟨D, hD⟩ : ∃ D, D = dMany dSym (dN 4 l s).1 (dN 4 l s).2.1 (dN 4 l s).2.2 := ⟨_, rfl⟩
  rw [← hD]
  have HD0 := Lib.hid hD
  rw [← hn0] at hn hlt4 HD0
  clear hD hn0 h
  generalize (dN 4 l s).2 = y at *
  go_enter Try.func24, Try.ntmps24
  go_wp2_with fail
  refine hn.mono ?_
  rintro e w1 ⟨rfl, hd1, hg1⟩
  have HLS1 : Hid (LS w w1 Q (.slice none 0 0) [] y.1 y.2) := ⟨hd1, World.ownsRow_nil _ _ _ _, hg1⟩
  clear hd1 hg1 hn
  go_wp2
  go_loopw [7, 8] (fun v i wr => ∃ (m : Nat) (l' : List UInt8) (s' : Bool) (xs : List Sy), m < 4294967296 ∧ i = .int .i64 m ∧ Hid (LS w wr Q v (xs.take 256) l' s') ∧ Hid (D = (xs ++ (dMany dSym m l' s').1, (dMany dSym m l' s').2))) (fun _ i _ => (intOf i).toNat)
  case atStart => exact ⟨n0, y.1, y.2, [], hlt4, rfl, by simpa using HLS1, by simpa using HD0⟩
  case round =>
    obtain ⟨m, l', s', xs, hm, rfl, HL, HD⟩ := hrel
    clear HLS1 HD0
    obtain ⟨ad, cap, hblk, z⟩ := HL.out.dr.blk
    have c1 : wr.cell? ⟨Q, 1, none⟩ = some (.bool s') := cell_of_block hblk rfl
    clear hblk z
    by_cases hm0 : 0 < m
    · have hm1 : (0 : Int) < m := by omega
      cases s'
      · have HD2 : Hid (D = ((xs ++ [(dSym l' false).1]) ++ (dMany dSym (m - 1) (dSym l' false).2.1 (dSym l' false).2.2).1, (dMany dSym (m - 1) (dSym l' false).2.1 (dSym l' false).2.2).2)) := by
          unfold Hid
          rw [HD.out, dMany_pos _ hm0]
          simp
        have hcall := dsym_any Q l' false wr HL.out.dr
        obtain ⟨ad7, cap7, rfl⟩ := row_shape HL.out.row
        obtain ⟨t, ht⟩ : ∃ t, t = xs.take 256 := ⟨_, rfl⟩
        rw [← ht] at HL
        have hT := Lib.hid ht
        have htl : t.length ≤ 256 := by rw [ht]; simp; omega
        obtain ⟨x, hx⟩ : ∃ x, x = (dSym l' false).1 := ⟨_, rfl⟩
        rw [← hx] at hcall HD2
        rw [← ht]
        clear hx ht HD
        generalize (dSym l' false).2 = y2 at *
        go_wp2_with fail
        refine hcall.mono ?_
        rintro e w2 ⟨rfl, hd2, hg2⟩
        have HR2 := Lib.hid (((row_far HL.out.row hQ hg2).alloc (.cells #[.string ⟨x.name.toArray⟩, .int .i64 x.pos] 38)))
        have HG2 := Lib.hid (ogtrans (ogtrans HL.out.gr hg2) (World.grownBy_alloc w2 (.cells #[.string ⟨x.name.toArray⟩, .int .i64 x.pos] 38) (some Q)))
        have HDR2 := Lib.hid (hd2.alloc (.cells #[.string ⟨x.name.toArray⟩, .int .i64 x.pos] 38))
        have hz2 : w.heap.size ≤ w2.heap.size := Nat.le_trans HL.out.gr.size hg2.size
        clear hd2 hg2 hcall HL c1
        unfold symV
        by_cases hle : t.length ≤ 255
        · have hle1 : (t.length : Int) ≤ 255 := by omega
          have HT2 : Hid ((xs ++ [x]).take 256 = t ++ [x]) := by
            unfold Hid
            rw [hT.out]
            exact take_more xs x 255 (by rw [← hT.out]; exact hle)
          obtain ⟨v4, w4, happ, ho4, hg4⟩ := app_sym (HR2.out.alloc (.cells #[.string ⟨x.name.toArray⟩, .int .i64 x.pos] 38)) (by simp; omega) x (w2.heap.size + 1) (by have := heap_alloc_new (w2.alloc (.cells #[.string ⟨x.name.toArray⟩, .int .i64 x.pos] 38)) (.cells #[.string ⟨x.name.toArray⟩, .int .i64 x.pos] 38); simpa using this) (by omega)
          have HA := Lib.hid happ
          have HL4 : Hid (LS w w4 Q v4 ((xs ++ [x]).take 256) y2.1 y2.2) := by
            have hfar : ∀ j, (Value.slice ad7 t.length cap7).ownBlock = some j → w.heap.size ≤ j := fun j hj => (HR2.out.lt j hj).1
            exact ⟨(HDR2.out.alloc _).grown hg4 (fun j hj => Nat.lt_of_lt_of_le hQ (hfar j hj)), by rw [HT2.out]; exact ho4, ogfar (ogtrans HG2.out (World.grownBy_alloc _ _ _)) hg4 hfar⟩
          clear happ ho4 hg4 HR2 HG2 HDR2 HT2
          go_wp2_with (at_builtin; refine wpList_app_eq rfl _ _ _ _ rfl _ _ rfl rfl HA.out ?_)
          exact ⟨⟨m - 1, _, _, _, by omega, by go_num, HL4, HD2⟩, by simp [intOf]; omega⟩
        · have hle1 : ¬ (t.length : Int) ≤ 255 := by omega
          have HL4 : Hid (LS w (w2.alloc (.cells #[.string ⟨x.name.toArray⟩, .int .i64 x.pos] 38)) Q (.slice ad7 t.length cap7) ((xs ++ [x]).take 256) y2.1 y2.2) := by
            refine ⟨HDR2.out, ?_, HG2.out⟩
            rw [take_full xs x 255 (by rw [← hT.out]; exact hle), ← hT.out]
            exact HR2.out
          clear HR2 HG2 HDR2
          go_wp2
          exact ⟨⟨m - 1, _, _, _, by omega, by go_num, HL4, HD2⟩, by simp [intOf]; omega⟩
      · have HE := Lib.hid (HL.out.done (D := D) (by rw [HD.out, dMany_true, List.append_nil]))
        clear HD HL
        go_wp2
        go_ret
        first | exact ⟨_, rfl, HE.out⟩ | exact ⟨_, rfl, by have h := HE.out; simp only [List.length_take] at h; exact h⟩
    · have hm1 : ¬ (0 : Int) < m := by omega
      have hm2 : m = 0 := by omega
      subst hm2
      have HE := Lib.hid (HL.out.done (D := D) (by rw [HD.out, dMany, List.append_nil]))
      clear HD HL hm0
      go_wp2
      go_ret
      first | exact ⟨_, rfl, HE.out⟩ | exact ⟨_, rfl, by have h := HE.out; simp only [List.length_take] at h; exact h⟩

end Go.Proofs.Ytobdcnpifbnjaac
