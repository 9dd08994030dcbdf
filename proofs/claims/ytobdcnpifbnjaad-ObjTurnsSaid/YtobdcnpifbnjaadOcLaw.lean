/- The walk of pllaw6.ObjTurns: whatever the object and the bytes, it tells true. -/
import Derived.Test.YtobdcnpifbnjaadOcTurn
namespace Go.Proofs.Ytobdcnpifbnjaad
open Go.RowKit

theorem parse_err {l : List UInt8} {y : Int} (h : parseO nameR l = .error y) : y ≠ 0 := by
  unfold parseO at h
  split at h
  · injection h with h; omega
  · split at h
    · cases h
    · rename_i hw
      injection h with h
      rw [← h]
      exact hw

/-- What is asked of the arguments. -/
structure Arg (w : World) (o : Ob) (l : List UInt8) (cv sv rv bv : Value) : Prop where
  ob : ObAt w cv sv rv o
  by' : RB w w.heap.size bv l
  few : l.length ≤ 140737488355328
  names : ∀ s, s ∈ o.syms → s.name.length ≤ maxLen
theorem Arg.below {w w' : World} {o : Ob} {l : List UInt8} {cv sv rv bv : Value} (h : Arg w o l cv sv rv bv) (hb : Below w.heap.size w w') : Arg w' o l cv sv rv bv :=
  ⟨h.ob.below hb (Nat.le_refl _), (h.by'.keep fun b hl => hb.block b hl).up hb.size, h.few, h.names⟩

/-- Parse and what comes of it, as the law's second half asks it. -/
def Half (w : World) (l : List UInt8) (e : Ending) (w' : World) : Prop := Below w.heap.size w w' ∧
  ((∃ y, y ≠ 0 ∧ e = .returned (.tuple #[.agg #[.slice none 0 0, .slice none 0 0, .slice none 0 0], .int .i64 y])) ∨
   (∃ o ca cc sa sc ra rc, wrongO nameR o = 0 ∧ bytesO o = l ∧ e = .returned (.tuple #[.agg #[.slice ca o.code.length cc, .slice sa o.syms.length sc, .slice ra o.rels.length rc], .int .i64 0]) ∧ ObAt w' (.slice ca o.code.length cc) (.slice sa o.syms.length sc) (.slice ra o.rels.length rc) o))
theorem parse_half (l : List UInt8) (v : Value) (w : World) (hv : RB w w.heap.size v l) (hl : l.length ≤ 140737488355328) :
    Calls Try.prog 7 #[v] w fun e w' => Half w l e w' := by
  refine (parse_any l v w hv hl).mono ?_
  rintro e w' ⟨hb, he⟩
  refine ⟨hb, ?_⟩
  cases hp : parseO nameR l with
  | error y =>
    rw [hp] at he
    exact .inl ⟨y, parse_err hp, he⟩
  | ok o =>
    rw [hp] at he
    obtain ⟨c, s, r, rfl, h1, h2, h3⟩ := he
    obtain ⟨ca, cc, rfl, _⟩ := id h1
    obtain ⟨sa, sc, rfl, _⟩ := id h2
    obtain ⟨ra, rc, rfl, _⟩ := id h3
    exact .inr ⟨o, ca, cc, sa, sc, ra, rc, (bytes_parse hp).2, (bytes_parse hp).1, rfl, h1, h2, h3⟩

theorem names_of_right {o : Ob} (h : wrongO nameR o = 0) : ∀ s, s ∈ o.syms → s.name.length ≤ maxLen := by
  unfold wrongO at h
  split at h
  · cases h
  · split at h
    case isFalse h1 => exact absurd h h1
    rename_i hs
    intro s hm
    have := nameR_len ((symsErr_ok _ _ hs s hm).1)
    unfold maxLen
    omega

set_option maxHeartbeats 8000000 in
theorem turns_any (o : Ob) (l : List UInt8) (cv sv rv bv : Value) (w : World) (h : Arg w o l cv sv rv bv) :
    Calls Try.prog 3 #[obV cv sv rv, bv] w fun e w' => e = .returned (.bool true) ∧ Below w.heap.size w w' := by
  obtain ⟨cad, ccap, rfl, z1⟩ := id h.ob.1
  obtain ⟨sad, scap, rfl, z2⟩ := id h.ob.2.1
  obtain ⟨rad, rcap, rfl, z3⟩ := id h.ob.2.2
  clear z1 z2 z3
  have HX0 := Lib.hid (boxed_new w (.slice cad o.code.length ccap) (.slice sad o.syms.length scap) (.slice rad o.rels.length rcap))
  have HA0 := Lib.hid (h.below (oalloc w (.cells #[.slice cad o.code.length ccap, .slice sad o.syms.length scap, .slice rad o.rels.length rcap] 26)))
  have HB0 := Lib.hid (oalloc w (.cells #[.slice cad o.code.length ccap, .slice sad o.syms.length scap, .slice rad o.rels.length rcap] 26))
  clear h
  unfold obV
  go_enter Try.func3, Try.ntmps3
  go_wp2_with fail
  refine (alive_any _).mono ?_
  rintro e w1 ⟨rfl, hb1⟩
  have HB1 := Lib.hid (bnext HB0.out hb1)
  have HX1 := Lib.hid (HX0.out.below hb1 (Nat.le_refl _))
  have HA1 := Lib.hid (HA0.out.below hb1)
  obtain ⟨x0, x1, x2⟩ := HX1.out.cells
  clear hb1 HB0 HX0 HA0
  go_wp2_with fail
  refine (wrong_any o _ _ _ w1 HA1.out.ob.1 HA1.out.ob.2.1 HA1.out.ob.2.2 HA1.out.names).mono ?_
  rintro e w2 ⟨rfl, hb2⟩
  have HB2 := Lib.hid (bnext HB1.out hb2)
  have HX2 := Lib.hid (HX1.out.below hb2 (Nat.le_refl _))
  have HA2 := Lib.hid (HA1.out.below hb2)
  clear x0 x1 x2
  obtain ⟨x0, x1, x2⟩ := HX2.out.cells
  clear hb2 HB1 HX1 HA1
  by_cases hw : wrongO nameR o = 0
  · rw [hw]
    have HW := Lib.hid hw
    clear hw
    go_wp2_with fail
    refine (bytes_good o _ _ _ w2 HA2.out.ob.1 HA2.out.ob.2.1 HA2.out.ob.2.2 HA2.out.names HW.out).mono ?_
    rintro e w3 ⟨x, rfl, hb3, ho3⟩
    have HB3 := Lib.hid (bnext HB2.out hb3)
    have HX3 := Lib.hid (HX2.out.below hb3 (Nat.le_refl _))
    have HA3 := Lib.hid (HA2.out.below hb3)
    have HP3 := Lib.hid (parse_back o HW.out x w3 _ ho3)
    clear x0 x1 x2 hb3 ho3 HB2 HX2 HA2
    go_wp2_with fail
    refine HP3.out.mono ?_
    rintro e w4 ⟨hb4, ca, cc, sa, sc, ra, rc, rfl, h1, h2, h3⟩
    have hba := bnext hb4 (oalloc w4 (.cells #[.slice ca o.code.length cc, .slice sa o.syms.length sc, .slice ra o.rels.length rc] 26))
    have HB4 := Lib.hid (bnext HB3.out hba)
    have HX4 := Lib.hid (HX3.out.below hba (Nat.le_refl _))
    have HA4 := Lib.hid (HA3.out.below hba)
    have HS4 := Lib.hid (same_any o _ _ _ _ _ _ _ HA4.out.ob.1 HA4.out.ob.2.1 HA4.out.ob.2.2 (h1.below (oalloc w4 (.cells #[.slice ca o.code.length cc, .slice sa o.syms.length sc, .slice ra o.rels.length rc] 26)) (Nat.le_refl _)) (h2.below (oalloc w4 _) (Nat.le_refl _)) (h3.below (oalloc w4 _) (Nat.le_refl _)))
    obtain ⟨y0, y1, y2⟩ := HX3.out.below hb4 (Nat.le_refl _) |>.cells
    have hlt4 : w.heap.size < w4.heap.size := (Array.getElem?_eq_some_iff.1 (HX3.out.below hb4 (Nat.le_refl _))).1
    clear hb4 h1 h2 h3 hba HB3 HX3 HA3 HP3
    go_wp2_with fail
    refine HS4.out.mono ?_
    rintro e w5 ⟨rfl, hb5⟩
    have HB5 := Lib.hid (bnext HB4.out hb5)
    have HA5 := Lib.hid (HA4.out.below hb5)
    clear y0 y1 y2 hb5 HB4 HX4 HA4 HS4
    go_wp2_with fail
    refine (parse_half l bv w5 HA5.out.by' HA5.out.few).mono ?_
    rintro e w6 ⟨hb6, hcase⟩
    rcases hcase with ⟨y, hy, rfl⟩ | ⟨p, ca, cc, sa, sc, ra, rc, hwp, hbp, rfl, hat⟩
    · have hy2 : (y != 0) = true := bne_iff_ne.2 hy
      have HB6 := Lib.hid (bnext (bnext HB5.out hb6) (oalloc w6 (.cells #[.slice none 0 0, .slice none 0 0, .slice none 0 0] 26)))
      clear hy hb6 HB5 HA5
      go_wp2
      go_ret
      exact ⟨rfl, HB6.out⟩
    · have HB6 := Lib.hid (bnext (bnext HB5.out hb6) (oalloc w6 (.cells #[.slice ca p.code.length cc, .slice sa p.syms.length sc, .slice ra p.rels.length rc] 26)))
      have HT6 := Lib.hid (hat.below (oalloc w6 (.cells #[.slice ca p.code.length cc, .slice sa p.syms.length sc, .slice ra p.rels.length rc] 26)) (Nat.le_refl _))
      have HA6 := Lib.hid ((HA5.out.below hb6).below (oalloc w6 (.cells #[.slice ca p.code.length cc, .slice sa p.syms.length sc, .slice ra p.rels.length rc] 26)))
      have HWP := Lib.hid hwp
      have HBP := Lib.hid hbp
      clear hb6 hat hwp hbp HB5 HA5
      go_wp2_with fail
      refine (bytes_good p _ _ _ _ HT6.out.1 HT6.out.2.1 HT6.out.2.2 (names_of_right HWP.out) HWP.out).mono ?_
      rintro e w7 ⟨x, rfl, hb7, ho7⟩
      have hcx := oconv (ho7.bytes (by have := bytesO_few HWP.out; unfold maxLen; omega))
      rw [HBP.out] at hcx
      have hcb := oconv ((HA6.out.below hb7).by'.bytes (Nat.le_refl _) (by have := HA6.out.few; unfold maxLen; omega))
      have HB7 := Lib.hid (bnext HB6.out hb7)
      clear hb7 ho7 HB6 HT6 HA6
      go_wp2
      go_ret
      exact ⟨rfl, HB7.out⟩
  · have hw2 : (wrongO nameR o == 0) = false := by simpa using hw
    clear hw x0 x1 x2
    go_wp2_with fail
    refine (parse_half l bv w2 HA2.out.by' HA2.out.few).mono ?_
    rintro e w6 ⟨hb6, hcase⟩
    rcases hcase with ⟨y, hy, rfl⟩ | ⟨p, ca, cc, sa, sc, ra, rc, hwp, hbp, rfl, hat⟩
    · have hy2 : (y != 0) = true := bne_iff_ne.2 hy
      have HB6 := Lib.hid (bnext (bnext HB2.out hb6) (oalloc w6 (.cells #[.slice none 0 0, .slice none 0 0, .slice none 0 0] 26)))
      clear hy hb6 HB2 HA2
      go_wp2
      go_ret
      exact ⟨rfl, HB6.out⟩
    · have HB6 := Lib.hid (bnext (bnext HB2.out hb6) (oalloc w6 (.cells #[.slice ca p.code.length cc, .slice sa p.syms.length sc, .slice ra p.rels.length rc] 26)))
      have HT6 := Lib.hid (hat.below (oalloc w6 (.cells #[.slice ca p.code.length cc, .slice sa p.syms.length sc, .slice ra p.rels.length rc] 26)) (Nat.le_refl _))
      have HA6 := Lib.hid ((HA2.out.below hb6).below (oalloc w6 (.cells #[.slice ca p.code.length cc, .slice sa p.syms.length sc, .slice ra p.rels.length rc] 26)))
      have HWP := Lib.hid hwp
      have HBP := Lib.hid hbp
      clear hb6 hat hwp hbp HB2 HA2
      go_wp2_with fail
      refine (bytes_good p _ _ _ _ HT6.out.1 HT6.out.2.1 HT6.out.2.2 (names_of_right HWP.out) HWP.out).mono ?_
      rintro e w7 ⟨x, rfl, hb7, ho7⟩
      have hcx := oconv (ho7.bytes (by have := bytesO_few HWP.out; unfold maxLen; omega))
      rw [HBP.out] at hcx
      have hcb := oconv ((HA6.out.below hb7).by'.bytes (Nat.le_refl _) (by have := HA6.out.few; unfold maxLen; omega))
      have HB7 := Lib.hid (bnext HB6.out hb7)
      clear hb7 ho7 HB6 HT6 HA6
      go_wp2
      go_ret
      exact ⟨rfl, HB7.out⟩

end Go.Proofs.Ytobdcnpifbnjaad
