/- The contracts of the reader's takeSign and takeKind. -/
import Derived.Test.YtifcpbpocdpnhabDoorPaA
namespace Go.Proofs.YtifcpbpocdpnhabDoor
open Go.RowKit

theorem drop_tok {ts : List Tok} {c : Nat} (h : c < ts.length) : ts.drop c = ts[c] :: ts.drop (c + 1) := List.drop_eq_getElem_cons h

theorem bytes_beq (a : List UInt8) (s : ByteArray) : (a == s.toList) = decide (a = s.data.toList) := by
  rw [ByteArray.toList_eq]
  exact Bool.eq_iff_iff.2 (by simp)

theorem Rdr.draws {w : World} {B : Nat} {ts : List Tok} {c : Nat} (h : Rdr w B ts c) (n : Nat) : Rdr (w.drewN n) B ts c := h.below (Go.Joins.below_draws (B + 1) w n) (Nat.lt_succ_self _)
theorem gdraws (w : World) (n : Nat) (r : Option Nat) : w.grownBy (w.drewN n) r := gbelow r (Go.Joins.below_draws w.heap.size w n) (Nat.le_refl _)

set_option maxHeartbeats 1000000 in
theorem takeSign_yes (s : ByteArray) (B : Nat) (ts : List Tok) (c : Nat) (w : World) (hR : Rdr w B ts c) (h : signIs (ts.drop c) s.data.toList = true) :
    Calls Tryd.prog 45 #[.pointer (some ⟨B, 0, none⟩), .string s] w fun e w' => e = .returned (.bool true) ∧ Rdr w' B ts (c + 1) ∧ w.grownBy w' (some B) := by
  obtain ⟨ad, cap, ht, hts⟩ := hR.toks
  have hn := hR.cnt
  have hfr := hR.fr
  have hle := hR.le
  have hfew := hR.few
  unfold maxLen at hfew
  have hlt : c < ts.length := by
    by_cases hlt : c < ts.length
    · exact hlt
    · rw [List.drop_eq_nil_of_le (by omega)] at h; cases h
  rw [drop_tok hlt] at h
  simp only [signIs, decide_eq_true_eq] at h
  obtain ⟨b, o, rfl, hb, hcs⟩ := hts (by omega)
  obtain ⟨c0, _, c2⟩ := hcs c hlt
  rw [h.1] at c0
  rw [h.2] at c2
  have e0 : ((c : Int) == (ts.length : Int)) = false := by simp; omega
  have hc1 : (c : Int) < ts.length := by omega
  have HR : Hid (Rdr w B ts c) := hR
  clear hts hcs hR h
  have hne : ¬ b = B := by omega
  have e4 : (s.data.toList == s.toList) = true := by rw [bytes_beq]; simp
  go_enter Tryd.func45, Tryd.ntmps45
  go_wp2
  go_quiet (fail)
  go_wp2
  go_ret
  exact ⟨rfl, (HR.out.draws nq).set (c + 1) (by omega), gtrans (gdraws w nq _) (gset _ _ _ _)⟩

set_option maxHeartbeats 1000000 in
theorem takeSign_no (s : ByteArray) (B : Nat) (ts : List Tok) (c : Nat) (w : World) (hR : Rdr w B ts c) (h : signIs (ts.drop c) s.data.toList = false) :
    Calls Tryd.prog 45 #[.pointer (some ⟨B, 0, none⟩), .string s] w fun e w' => e = .returned (.bool false) ∧ Rdr w' B ts c ∧ w.grownBy w' (some B) := by
  obtain ⟨ad, cap, ht, hts⟩ := hR.toks
  have hn := hR.cnt
  have hfr := hR.fr
  have hle := hR.le
  have hfew := hR.few
  unfold maxLen at hfew
  have HR : Hid (Rdr w B ts c) := hR
  by_cases hlt : c < ts.length
  · obtain ⟨b, o, rfl, hb, hcs⟩ := hts (by omega)
    obtain ⟨c0, _, c2⟩ := hcs c hlt
    have e0 : ((c : Int) == (ts.length : Int)) = false := by simp; omega
    have hc1 : (c : Int) < ts.length := by omega
    rw [drop_tok hlt] at h
    simp only [signIs] at h
    have HSI : Hid (decide (ts[c].kind = 3 ∧ ts[c].text = s.data.toList) = false) := h
    clear hts hcs hR h
    have hne : ¬ b = B := by omega
    generalize ts[c].kind = kd at *
    generalize ts[c].text = tx at *
    by_cases h3 : kd = 3
    · have e3 : (kd != 3) = false := by simp [h3]
      have e4 : (tx == s.toList) = false := by
        have := HSI.out
        rw [bytes_beq]
        simp [h3] at this
        simp [this]
      subst h3
      go_enter Tryd.func45, Tryd.ntmps45
      go_wp2
      go_quiet (fail)
      go_wp2
      go_ret
      exact ⟨rfl, HR.out.draws nq, gdraws w nq _⟩
    · have e3 : (kd != 3) = true := by simp [h3]
      go_enter Tryd.func45, Tryd.ntmps45
      go_wp2
      go_quiet (fail)
      go_wp2
      go_ret
      exact ⟨rfl, HR.out.draws nq, gdraws w nq _⟩
  · have e0 : ((c : Int) == (ts.length : Int)) = true := by simp; omega
    clear h hts hR
    go_enter Tryd.func45, Tryd.ntmps45
    go_wp2
    go_quiet (fail)
    go_wp2
    go_ret
    exact ⟨rfl, HR.out.draws nq, gdraws w nq _⟩

theorem takeSign_any (s : ByteArray) (B : Nat) (ts : List Tok) (c : Nat) (w : World) (hR : Rdr w B ts c) :
    Calls Tryd.prog 45 #[.pointer (some ⟨B, 0, none⟩), .string s] w fun e w' => e = .returned (.bool (signIs (ts.drop c) s.data.toList)) ∧ Rdr w' B ts (c + (signIs (ts.drop c) s.data.toList).toNat) ∧ w.grownBy w' (some B) := by
  cases h : signIs (ts.drop c) s.data.toList
  · exact takeSign_no s B ts c w hR h
  · exact takeSign_yes s B ts c w hR h

end Go.Proofs.YtifcpbpocdpnhabDoor
