/- The contracts of isSign and of the reader's takeSign. -/
import Derived.Test.YtibenegbjpoclabDoorPaA
namespace Go.Proofs.YtibenegbjpoclabDoor
open Go.RowKit

theorem drop_tok {ts : List Tok} {c : Nat} (h : c < ts.length) : ts.drop c = ts[c] :: ts.drop (c + 1) := List.drop_eq_getElem_cons h

theorem bytes_beq (a : List UInt8) (s : ByteArray) : (a == s.toList) = decide (a = s.data.toList) := by
  rw [ByteArray.toList_eq]
  exact Bool.eq_iff_iff.2 (by simp)

theorem Rdr.draws {w : World} {B : Nat} {ts : List Tok} {c : Nat} (h : Rdr w B ts c) (n : Nat) : Rdr (w.drewN n) B ts c := h.below (Go.Joins.below_draws (B + 1) w n) (Nat.lt_succ_self _)
theorem gdraws (w : World) (n : Nat) (r : Option Nat) : w.grownBy (w.drewN n) r := gbelow r (Go.Joins.below_draws w.heap.size w n) (Nat.le_refl _)

/-- Whether a token is that sign. -/
def signT (t : Tok) (s : List UInt8) : Bool := decide (t.kind = 3 ∧ t.text = s)
theorem signIs_cons (t : Tok) (r : List Tok) (s : List UInt8) : signIs (t :: r) s = signT t s := rfl

theorem isSign_any (t : Tok) (s : ByteArray) (w : World) :
    Calls Tryd.prog 56 #[.agg #[.int .i64 t.kind, .int .i64 t.n, .string ⟨t.text.toArray⟩], .string s] w fun e w' => e = .returned (.bool (signT t s.data.toList)) ∧ Below w.heap.size w w' := by
  obtain ⟨kd, n, tx⟩ := t
  by_cases h3 : kd = 3
  · have HV : Hid (signT ⟨kd, n, tx⟩ s.data.toList = (tx == s.toList)) := by
      unfold Hid signT
      rw [bytes_beq]
      simp [h3]
    subst h3
    go_enter Tryd.func56, Tryd.ntmps56
    go_wp2
    go_ret
    exact ⟨by rw [HV.out]; rfl, (Below.refl _ _).alloc (Nat.le_refl _) _⟩
  · have e3 : (kd == 3) = false := by simp [h3]
    have HV : Hid (signT ⟨kd, n, tx⟩ s.data.toList = false) := by simp [Hid, signT, h3]
    go_enter Tryd.func56, Tryd.ntmps56
    go_wp2
    go_ret
    exact ⟨by rw [HV.out]; rfl, (Below.refl _ _).alloc (Nat.le_refl _) _⟩

/-- What the reader's cells hold stays, behind a callee that writes nothing old. -/
theorem keepR {w w1 w2 : World} {B b i0 i1 i2 : Nat} {x0 x1 y0 y1 y2 : Value} (hb : Below w1.heap.size w1 w2)
    (h : (B < w1.heap.size ∧ b < w1.heap.size) ∧ w1.cell? ⟨B, 0, none⟩ = some x0 ∧ w1.cell? ⟨B, 1, none⟩ = some x1 ∧ w1.frozen? ⟨B, 1, none⟩ = false ∧ w1.cell? ⟨b, i0, none⟩ = some y0 ∧ w1.cell? ⟨b, i1, none⟩ = some y1 ∧ w1.cell? ⟨b, i2, none⟩ = some y2 ∧ Below w.heap.size w w1) :
    (B < w2.heap.size ∧ b < w2.heap.size) ∧ w2.cell? ⟨B, 0, none⟩ = some x0 ∧ w2.cell? ⟨B, 1, none⟩ = some x1 ∧ w2.frozen? ⟨B, 1, none⟩ = false ∧ w2.cell? ⟨b, i0, none⟩ = some y0 ∧ w2.cell? ⟨b, i1, none⟩ = some y1 ∧ w2.cell? ⟨b, i2, none⟩ = some y2 ∧ Below w.heap.size w w2 := by
  obtain ⟨⟨h0, h00⟩, h1, h2, h3, h4, h5, h6, h7⟩ := h
  have hs := hb.size
  exact ⟨⟨by omega, by omega⟩, by rw [hb.cell (by exact h0)]; exact h1, by rw [hb.cell (by exact h0)]; exact h2, by rw [hb.frozen (by exact h0)]; exact h3, by rw [hb.cell (by exact h00)]; exact h4, by rw [hb.cell (by exact h00)]; exact h5, by rw [hb.cell (by exact h00)]; exact h6, h7.trans (hb.mono h7.size)⟩

set_option maxHeartbeats 1000000 in
theorem takeSign_yes (s : ByteArray) (B : Nat) (ts : List Tok) (c : Nat) (w : World) (hR : Rdr w B ts c) (h : signIs (ts.drop c) s.data.toList = true) :
    Calls Tryd.prog 45 #[.pointer (some ⟨B, 0, none⟩), .string s] w fun e w' => e = .returned (.bool true) ∧ Rdr w' B ts (c + 1) ∧ w.grownBy w' (some B) := by
  obtain ⟨ad, cap, ht, hts⟩ := hR.toks
  have hn := hR.cnt
  have hfr := hR.fr
  have hle := hR.le
  have hfew := hR.few
  unfold maxLen at hfew
  have hlt : c < ts.length := by
    by_cases hlt : c < ts.length
    · exact hlt
    · rw [List.drop_eq_nil_of_le (by omega)] at h; cases h
  rw [drop_tok hlt, signIs_cons] at h
  obtain ⟨b, o, rfl, hb, hcs⟩ := hts (by omega)
  obtain ⟨c0, c1, c2⟩ := hcs c hlt
  have e0 : ((c : Int) == (ts.length : Int)) = false := by simp; omega
  have hc1 : (c : Int) < ts.length := by omega
  have HR : Hid (Rdr w B ts c) := hR
  have HS : Hid (signT ts[c] s.data.toList = true) := h
  clear hts hcs hR h
  have hne : ¬ b = B := by omega
  have hlB := HR.out.lt
  have hlb : b < w.heap.size := by omega
  go_enter Tryd.func45, Tryd.ntmps45
  go_wp2_with fail
  go_region_held3 (fun w' => (B < w'.heap.size ∧ b < w'.heap.size) ∧ w'.cell? ⟨B, 0, none⟩ = some (.slice (some ⟨b, o, none⟩) ts.length cap) ∧ w'.cell? ⟨B, 1, none⟩ = some (.int .i64 c) ∧ w'.frozen? ⟨B, 1, none⟩ = false ∧ w'.cell? ⟨b, o + c * 3, none⟩ = some (.int .i64 ts[c].kind) ∧ w'.cell? ⟨b, o + c * 3 + 1, none⟩ = some (.int .i64 ts[c].n) ∧ w'.cell? ⟨b, o + c * 3 + 2, none⟩ = some (.string ⟨ts[c].text.toArray⟩) ∧ Below w.heap.size w w')
    (first | exact keepR hb1 (by assumption) | exact ⟨⟨hlB, hlb⟩, ht, hn, hfr, c0, c1, c2, (Below.refl _ _).drew⟩)
    ((go_at_call 56; refine (isSign_any ts[c] s _).mono ?_; rintro e w' ⟨rfl, hb1⟩; rw [HS.out]))
  rename_i hH
  clear hn hfr c0 c1 c2 ht hb1
  obtain ⟨_, _, hn, hfr, _, _, _, hB⟩ := hH
  have HB : Hid (Below w.heap.size w w') := hB
  clear hB
  go_wp2
  go_ret
  exact ⟨rfl, (HR.out.below HB.out hlB).set (c + 1) (by omega), gtrans (gbelow _ HB.out (Nat.le_refl _)) (gset _ _ _ _)⟩

set_option maxHeartbeats 1000000 in
theorem takeSign_no (s : ByteArray) (B : Nat) (ts : List Tok) (c : Nat) (w : World) (hR : Rdr w B ts c) (h : signIs (ts.drop c) s.data.toList = false) :
    Calls Tryd.prog 45 #[.pointer (some ⟨B, 0, none⟩), .string s] w fun e w' => e = .returned (.bool false) ∧ Rdr w' B ts c ∧ w.grownBy w' (some B) := by
  obtain ⟨ad, cap, ht, hts⟩ := hR.toks
  have hn := hR.cnt
  have hfr := hR.fr
  have hle := hR.le
  have hfew := hR.few
  unfold maxLen at hfew
  have HR : Hid (Rdr w B ts c) := hR
  have hlB := HR.out.lt
  by_cases hlt : c < ts.length
  · rw [drop_tok hlt, signIs_cons] at h
    obtain ⟨b, o, rfl, hb, hcs⟩ := hts (by omega)
    obtain ⟨c0, c1, c2⟩ := hcs c hlt
    have e0 : ((c : Int) == (ts.length : Int)) = false := by simp; omega
    have hc1 : (c : Int) < ts.length := by omega
    have HS : Hid (signT ts[c] s.data.toList = false) := h
    clear hts hcs hR h
    have hne : ¬ b = B := by omega
    have hlb : b < w.heap.size := by omega
    go_enter Tryd.func45, Tryd.ntmps45
    go_wp2_with fail
    go_region_held3 (fun w' => (B < w'.heap.size ∧ b < w'.heap.size) ∧ w'.cell? ⟨B, 0, none⟩ = some (.slice (some ⟨b, o, none⟩) ts.length cap) ∧ w'.cell? ⟨B, 1, none⟩ = some (.int .i64 c) ∧ w'.frozen? ⟨B, 1, none⟩ = false ∧ w'.cell? ⟨b, o + c * 3, none⟩ = some (.int .i64 ts[c].kind) ∧ w'.cell? ⟨b, o + c * 3 + 1, none⟩ = some (.int .i64 ts[c].n) ∧ w'.cell? ⟨b, o + c * 3 + 2, none⟩ = some (.string ⟨ts[c].text.toArray⟩) ∧ Below w.heap.size w w')
      (first | exact keepR hb1 (by assumption) | exact ⟨⟨hlB, hlb⟩, ht, hn, hfr, c0, c1, c2, (Below.refl _ _).drew⟩)
      ((go_at_call 56; refine (isSign_any ts[c] s _).mono ?_; rintro e w' ⟨rfl, hb1⟩; rw [HS.out]))
    rename_i hH
    clear hn hfr c0 c1 c2 ht hb1
    have HB : Hid (Below w.heap.size w w') := hH.2.2.2.2.2.2.2
    clear hH
    go_wp2
    go_ret
    exact ⟨rfl, HR.out.below HB.out hlB, gbelow _ HB.out (Nat.le_refl _)⟩
  · have e0 : ((c : Int) == (ts.length : Int)) = true := by simp; omega
    clear h hts hR
    go_enter Tryd.func45, Tryd.ntmps45
    go_wp2
    go_quiet (fail)
    go_wp2
    go_ret
    exact ⟨rfl, HR.out.draws nq, gdraws w nq _⟩

theorem takeSign_any (s : ByteArray) (B : Nat) (ts : List Tok) (c : Nat) (w : World) (hR : Rdr w B ts c) :
    Calls Tryd.prog 45 #[.pointer (some ⟨B, 0, none⟩), .string s] w fun e w' => e = .returned (.bool (signIs (ts.drop c) s.data.toList)) ∧ Rdr w' B ts (c + (signIs (ts.drop c) s.data.toList).toNat) ∧ w.grownBy w' (some B) := by
  cases h : signIs (ts.drop c) s.data.toList
  · exact takeSign_no s B ts c w hR h
  · exact takeSign_yes s B ts c w hR h

end Go.Proofs.YtibenegbjpoclabDoor
