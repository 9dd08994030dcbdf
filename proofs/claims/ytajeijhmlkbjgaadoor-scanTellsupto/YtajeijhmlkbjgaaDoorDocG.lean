/- The contracts of the document's own Name and Print. -/
import Derived.Test.YtajeijhmlkbjgaaDoorDocE
import Derived.Test.YtajeijhmlkbjgaaDoorNameA
namespace Go.Proofs.YtajeijhmlkbjgaaDoor
open Go.RowKit

theorem kind_same (c : Int) (w : World) :
    Calls Tryd.prog 48 #[.int .u8 c] w fun e w' => e = .returned (.int .u8 (kindR c)) ∧ w = w' :=
  (kind_any c w).mono fun _ _ h => ⟨h.1, h.2.symm⟩

theorem kindN97 (c : Int) : (kindR c != 97) = !letterB c := by rw [bne, kind97]
theorem kindN48 {c : Int} (h : letterB c = false) : (kindR c != 48) = !digitB c := by rw [bne, kind48 h]

/-- A name's bytes from a place on. -/
def allAt (l : List UInt8) (k : Nat) : Prop := l.all (pb nameB) = (l.drop k).all (pb nameB)
theorem allAt_start (l : List UInt8) : allAt l 0 := by simp [allAt]
theorem allAt_yes {l r : List UInt8} {k : Nat} {c : UInt8} (h : allAt l k) (hd : l.drop k = c :: r) (hc : nameB c.toNat = true) : allAt l (k + 1) := by
  unfold allAt at h ⊢
  have hr : l.drop (k + 1) = r := by rw [← List.drop_drop, hd]; rfl
  have hp : pb nameB c = true := hc
  rw [h, hd, hr]
  simp [hp]
theorem allAt_no {l r : List UInt8} {k : Nat} {c : UInt8} (h : allAt l k) (hd : l.drop k = c :: r) (hc : nameB c.toNat = false) : l.all (pb nameB) = false := by
  unfold allAt at h
  have hp : pb nameB c = false := hc
  rw [h, hd]
  simp [hp]
theorem allAt_end {l : List UInt8} {k : Nat} (h : allAt l k) (hd : l.length ≤ k) : l.all (pb nameB) = true := by
  unfold allAt at h
  rw [h, List.drop_eq_nil_of_le hd]
  rfl

theorem nameR_eq {c : UInt8} {r : List UInt8} (h : r.length < 10) (hl : letterB c.toNat = true) : nameR (c :: r) = (c :: r).all (pb nameB) := by
  have hd : pb digitB c = false := by have := letter_blank c; rw [hl] at this; simp at this; exact this.2
  simp [nameR, h, hd]
theorem nameR_no {c : UInt8} {r : List UInt8} (hl : letterB c.toNat = false) : nameR (c :: r) = false := by
  unfold nameR
  cases hd : pb digitB c
  · have : pb nameB c = false := by
      have h1 : digitB c.toNat = false := hd
      simp [pb, nameB, hl, h1]
    simp [this]
  · simp [hd]

theorem rname_any (s : ByteArray) (w : World) :
    Calls Tryd.prog 31 #[.string s] w fun e w' => e = .returned (.bool (nameR s.data.toList)) ∧ w = w' := by
  have HLN : Hid (s.data.toList.length = s.size) := Array.length_toList
  cases hl : s.data.toList with
  | nil =>
    have hs : s = ⟨#[]⟩ := empty_of hl
    subst hs
    go_enter Tryd.func31, Tryd.ntmps31
    go_wp2
    go_ret
    exact ⟨rfl, rfl⟩
  | cons c r =>
    have hlen : s.size = r.length + 1 := by rw [← HLN.out, hl]; rfl
    have h0 : 0 < s.size := by omega
    have hne : (s.toList == []) = false := not_empty h0
    have HL : Hid (s.data.toList = c :: r) := hl
    by_cases h10 : (10 : Int) < s.size
    · have HF : Hid (nameR (c :: r) = false) := by
        have : ¬ r.length < 10 := by omega
        simp [Hid, nameR, this]
      clear hlen hl
      go_enter Tryd.func31, Tryd.ntmps31
      go_wp2
      go_ret
      exact ⟨ret_bool HF.out.symm, rfl⟩
    · have hat : s[0] = c := by
        have := drop_at h0
        rw [List.drop_zero, hl] at this
        injection this with h1 _
        exact h1.symm
      have hidx := index9 s 0 0 rfl h0
      rw [hat] at hidx
      cases hd : letterB c.toNat
      · have HF : Hid (nameR (c :: r) = false) := nameR_no hd
        have k97 := kindN97 c.toNat
        rw [hd] at k97
        clear hlen hl hat
        go_enter Tryd.func31, Tryd.ntmps31
        go_wp2_with (go_at_call 48; refine (kind_same _ _).mono ?_; rintro e w' ⟨rfl, rfl⟩)
        go_ret
        exact ⟨ret_bool HF.out.symm, rfl⟩
      · have HF : Hid (nameR (c :: r) = (c :: r).all (pb nameB)) := nameR_eq (by omega) hd
        have k97 := kindN97 c.toNat
        rw [hd] at k97
        have hs10 : s.size ≤ 10 := by omega
        clear hlen hl hat
        go_enter Tryd.func31, Tryd.ntmps31
        go_wp2_with (go_at_call 48; refine (kind_same _ _).mono ?_; rintro e w' ⟨rfl, rfl⟩)
        clear k97 hidx
        go_loop [19] (fun i => ∃ k : Nat, k ≤ s.size ∧ i = .int .i64 k ∧ Hid (allAt s.data.toList k)) (fun i => s.size - (intOf i).toNat)
        case atStart => exact ⟨0, Nat.zero_le _, rfl, allAt_start _⟩
        case round =>
          obtain ⟨k, hk, rfl, HA⟩ := hrel
          by_cases hlt : k < s.size
          · have hk1 : (k : Int) < s.size := by omega
            have hidx := index9 s k k rfl hlt
            have HDR : Hid (s.data.toList.drop k = s[k] :: s.data.toList.drop (k + 1)) := drop_at hlt
            generalize s[k] = d at *
            have k97 := kindN97 d.toNat
            by_cases h46 : (d.toNat : Int) = 46
            · have e46 : ((d.toNat : Int) == 46) = true := by simpa using h46
              have HN : Hid ((c :: r).all (pb nameB) = false) := by rw [← HL.out]; exact allAt_no HA.out HDR.out (by rw [h46]; decide)
              go_wp2_with (go_at_call 48; refine (kind_same _ _).mono ?_; rintro e w' ⟨rfl, rfl⟩)
              go_ret
              exact ⟨ret_bool (by rw [HF.out, HN.out]), rfl⟩
            · have e46 : ((d.toNat : Int) == 46) = false := beq_no h46
              cases hl2 : letterB d.toNat
              · have k48 := kindN48 hl2
                rw [hl2] at k97
                cases hg2 : digitB d.toNat
                · rw [hg2] at k48
                  have HN : Hid ((c :: r).all (pb nameB) = false) := by rw [← HL.out]; exact allAt_no HA.out HDR.out (by simp [nameB, hl2, hg2])
                  go_wp2_with (go_at_call 48; refine (kind_same _ _).mono ?_; rintro e w' ⟨rfl, rfl⟩)
                  go_ret
                  exact ⟨ret_bool (by rw [HF.out, HN.out]), rfl⟩
                · rw [hg2] at k48
                  go_wp2_with (go_at_call 48; refine (kind_same _ _).mono ?_; rintro e w' ⟨rfl, rfl⟩)
                  exact ⟨⟨k + 1, by omega, by go_num, allAt_yes HA.out HDR.out (by simp [nameB, hg2, h46])⟩, by simp [intOf]; omega⟩
              · rw [hl2] at k97
                go_wp2_with (go_at_call 48; refine (kind_same _ _).mono ?_; rintro e w' ⟨rfl, rfl⟩)
                exact ⟨⟨k + 1, by omega, by go_num, allAt_yes HA.out HDR.out (by simp [nameB, hl2, h46])⟩, by simp [intOf]; omega⟩
          · have hk1 : ¬ (k : Int) < s.size := by omega
            have HN : Hid ((c :: r).all (pb nameB) = true) := by rw [← HL.out]; exact allAt_end HA.out (by rw [HLN.out]; omega)
            go_wp2
            go_ret
            exact ⟨ret_bool (by rw [HF.out, HN.out]), rfl⟩

end Go.Proofs.YtajeijhmlkbjgaaDoor
