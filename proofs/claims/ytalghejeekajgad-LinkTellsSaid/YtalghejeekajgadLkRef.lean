/- The contracts of the document's own Name, kind, Signed, and Wrong of an object (the first part of ObRef, for a seat that has no more of it). -/
import Derived.Test.YtalghejeekajgadObCore
namespace Go.Proofs.Ytalghejeekajgad
open Go.RowKit

set_option maxHeartbeats 1000000 in
theorem kind_any (c : Int) (w : World) :
    Calls Try.prog 53 #[.int .u8 c] w fun e w' => e = .returned (.int .u8 (kindR c)) ∧ w' = w := by
  by_cases he : c = 95 ∨ c = 46 ∨ c = 32 ∨ c = 9 ∨ c = 13
  · rcases he with rfl | rfl | rfl | rfl | rfl
    all_goals
      go_enter Try.func53, Try.ntmps53
      go_wp2
      go_ret
      exact ⟨rfl, rfl⟩
  · have e5 : (c == 95) = false := beq_no (by omega)
    have e6 : (c == 46) = false := beq_no (by omega)
    have e9 : (c == 32) = false := beq_no (by omega)
    have e10 : (c == 9) = false := beq_no (by omega)
    have e11 : (c == 13) = false := beq_no (by omega)
    have HE : Hid (¬ (c = 95 ∨ c = 46 ∨ c = 32 ∨ c = 9 ∨ c = 13)) := he
    clear he
    by_cases h1 : 97 ≤ c
    all_goals by_cases h2 : c ≤ 122
    all_goals try (exfalso; omega)
    all_goals by_cases h3 : 65 ≤ c
    all_goals try (exfalso; omega)
    all_goals by_cases h4 : c ≤ 90
    all_goals try (exfalso; omega)
    all_goals by_cases h7 : 48 ≤ c
    all_goals try (exfalso; omega)
    all_goals by_cases h8 : c ≤ 57
    all_goals try (exfalso; omega)
    all_goals
      go_enter Try.func53, Try.ntmps53
      go_wp2
      go_ret
      refine ⟨ret_int ?_, rfl⟩
      have hh := HE.out
      unfold kindR letterB digitB blankB
      repeat' split
      all_goals first | rfl | (exfalso; simp at *; omega)

theorem kind_same (c : Int) (w : World) :
    Calls Try.prog 53 #[.int .u8 c] w fun e w' => e = .returned (.int .u8 (kindR c)) ∧ w = w' :=
  (kind_any c w).mono fun _ _ h => ⟨h.1, h.2.symm⟩

theorem rname_any (s : ByteArray) (w : World) :
    Calls Try.prog 48 #[.string s] w fun e w' => e = .returned (.bool (nameR s.data.toList)) ∧ w = w' := by
  have HLN : Hid (s.data.toList.length = s.size) := Array.length_toList
  cases hl : s.data.toList with
  | nil =>
    have hs : s = ⟨#[]⟩ := empty_of hl
    subst hs
    go_enter Try.func48, Try.ntmps48
    go_wp2
    go_ret
    exact ⟨rfl, rfl⟩
  | cons c r =>
    have hlen : s.size = r.length + 1 := by rw [← HLN.out, hl]; rfl
    have h0 : 0 < s.size := by omega
    have hne : (s.toList == []) = false := not_empty h0
    have HL : Hid (s.data.toList = c :: r) := hl
    by_cases h10 : (10 : Int) < s.size
    · have HF : Hid (nameR (c :: r) = false) := by
        have : ¬ r.length < 10 := by omega
        simp [Hid, nameR, this]
      clear hlen hl
      go_enter Try.func48, Try.ntmps48
      go_wp2
      go_ret
      exact ⟨ret_bool HF.out.symm, rfl⟩
    · have hat : s[0] = c := by
        have := drop_at h0
        rw [List.drop_zero, hl] at this
        injection this with h1 _
        exact h1.symm
      have hidx := index9 s 0 0 rfl h0
      rw [hat] at hidx
      cases hd : letterB c.toNat
      · have HF : Hid (nameR (c :: r) = false) := nameR_no hd
        have k97 := kindN97 c.toNat
        rw [hd] at k97
        clear hlen hl hat
        go_enter Try.func48, Try.ntmps48
        go_wp2_with (go_at_call 53; refine (kind_same _ _).mono ?_; rintro e w' ⟨rfl, rfl⟩)
        go_ret
        exact ⟨ret_bool HF.out.symm, rfl⟩
      · have HF : Hid (nameR (c :: r) = (c :: r).all (pb nameB)) := nameR_eq (by omega) hd
        have k97 := kindN97 c.toNat
        rw [hd] at k97
        have hs10 : s.size ≤ 10 := by omega
        clear hlen hl hat
        go_enter Try.func48, Try.ntmps48
        go_wp2_with (go_at_call 53; refine (kind_same _ _).mono ?_; rintro e w' ⟨rfl, rfl⟩)
        clear k97 hidx
        go_loop [19] (fun i => ∃ k : Nat, k ≤ s.size ∧ i = .int .i64 k ∧ Hid (allAt s.data.toList k)) (fun i => s.size - (intOf i).toNat)
        case atStart => exact ⟨0, Nat.zero_le _, rfl, allAt_start _⟩
        case round =>
          obtain ⟨k, hk, rfl, HA⟩ := hrel
          by_cases hlt : k < s.size
          · have hk1 : (k : Int) < s.size := by omega
            have hidx := index9 s k k rfl hlt
            have HDR : Hid (s.data.toList.drop k = s[k] :: s.data.toList.drop (k + 1)) := drop_at hlt
            generalize s[k] = d at *
            have k97 := kindN97 d.toNat
            by_cases h46 : (d.toNat : Int) = 46
            · have e46 : ((d.toNat : Int) == 46) = true := by simpa using h46
              have HN : Hid ((c :: r).all (pb nameB) = false) := by rw [← HL.out]; exact allAt_no HA.out HDR.out (by rw [h46]; decide)
              go_wp2_with (go_at_call 53; refine (kind_same _ _).mono ?_; rintro e w' ⟨rfl, rfl⟩)
              go_ret
              exact ⟨ret_bool (by rw [HF.out, HN.out]), rfl⟩
            · have e46 : ((d.toNat : Int) == 46) = false := beq_no h46
              cases hl2 : letterB d.toNat
              · have k48 := kindN48 hl2
                rw [hl2] at k97
                cases hg2 : digitB d.toNat
                · rw [hg2] at k48
                  have HN : Hid ((c :: r).all (pb nameB) = false) := by rw [← HL.out]; exact allAt_no HA.out HDR.out (by simp [nameB, hl2, hg2])
                  go_wp2_with (go_at_call 53; refine (kind_same _ _).mono ?_; rintro e w' ⟨rfl, rfl⟩)
                  go_ret
                  exact ⟨ret_bool (by rw [HF.out, HN.out]), rfl⟩
                · rw [hg2] at k48
                  go_wp2_with (go_at_call 53; refine (kind_same _ _).mono ?_; rintro e w' ⟨rfl, rfl⟩)
                  exact ⟨⟨k + 1, by omega, by go_num, allAt_yes HA.out HDR.out (by simp [nameB, hg2, h46])⟩, by simp [intOf]; omega⟩
              · rw [hl2] at k97
                go_wp2_with (go_at_call 53; refine (kind_same _ _).mono ?_; rintro e w' ⟨rfl, rfl⟩)
                exact ⟨⟨k + 1, by omega, by go_num, allAt_yes HA.out HDR.out (by simp [nameB, hl2, h46])⟩, by simp [intOf]; omega⟩
          · have hk1 : ¬ (k : Int) < s.size := by omega
            have HN : Hid ((c :: r).all (pb nameB) = true) := by rw [← HL.out]; exact allAt_end HA.out (by rw [HLN.out]; omega)
            go_wp2
            go_ret
            exact ⟨ret_bool (by rw [HF.out, HN.out]), rfl⟩

theorem rsigned_ob (n : Int) (w : World) :
    Calls Try.prog 33 #[.int .i64 n] w fun e w' => e = .returned (.int .i64 (wrap32 n)) ∧ w' = w := by
  go_enter Try.func33, Try.ntmps33
  go_wp2
  go_ret
  refine ⟨ret_int ?_, rfl⟩
  unfold wrap32 wrap64
  omega

/-- Var of three cells. -/
def Box3 (w : World) (R : Nat) (a b c : Value) : Prop := w.cell? ⟨R, 0, none⟩ = some a ∧ w.cell? ⟨R, 1, none⟩ = some b ∧ w.cell? ⟨R, 2, none⟩ = some c

theorem box3_new (w : World) (a b c : Value) (t : TypeId) : Box3 (w.alloc (.cells #[a, b, c] t)) w.heap.size a b c := by
  refine ⟨?_, ?_, ?_⟩ <;> (rw [World.cell?_alloc_new]; rfl)

theorem Box3.below {w w' : World} {R B : Nat} {a b c : Value} (h : Box3 w R a b c) (hb : Below B w w') (hR : R < B) : Box3 w' R a b c :=
  ⟨(hb.cell (by exact hR)).trans h.1, (hb.cell (by exact hR)).trans h.2.1, (hb.cell (by exact hR)).trans h.2.2⟩

set_option maxHeartbeats 4000000 in
theorem rwrong_much (o : Ob) (cv sv rv : Value) (w : World) (hC : OBytes w cv o.code) (hS : OSyms w sv o.syms) (hR : ORels w rv o.rels) (h : 8000 < o.code.length ∨ 255 < o.syms.length ∨ 16000 < o.rels.length) :
    Calls Try.prog 31 #[obV cv sv rv] w fun e w' => e = .returned (.int .i64 4) ∧ Below w.heap.size w w' := by
  obtain ⟨cad, ccap, rfl, hcm, z1⟩ := hC
  obtain ⟨sad, scap, rfl, hsm, z2⟩ := hS
  obtain ⟨rad, rcap, rfl, hrm, z3⟩ := hR
  clear z1 z2 z3
  unfold maxLen at hcm hsm hrm
  unfold obV
  by_cases h1 : (8000 : Int) < o.code.length
  · go_enter Try.func31, Try.ntmps31
    go_wp2
    go_ret
    exact ⟨rfl, oalloc _ _⟩
  · by_cases h2 : (255 : Int) < o.syms.length
    · go_enter Try.func31, Try.ntmps31
      go_wp2
      go_ret
      exact ⟨rfl, oalloc _ _⟩
    · have h3 : (16000 : Int) < o.rels.length := by omega
      go_enter Try.func31, Try.ntmps31
      go_wp2
      go_ret
      exact ⟨rfl, oalloc _ _⟩

/-- What the loops keep: the object's box, and the slices. -/
structure WKeep (w0 : World) (R : Nat) (o : Ob) (cv sv rv : Value) (w : World) : Prop where
  lt : R < w.heap.size
  bel : Below R w0 w
  box : Box3 w R cv sv rv

theorem WKeep.next {w0 w w' : World} {R : Nat} {o : Ob} {cv sv rv : Value} (h : WKeep w0 R o cv sv rv w) (hb : Below w.heap.size w w') : WKeep w0 R o cv sv rv w' :=
  ⟨Nat.lt_of_lt_of_le h.lt hb.size, h.bel.trans (hb.mono (Nat.le_of_lt h.lt)), h.box.below hb h.lt⟩

theorem wrong_sym {o : Ob} {k : Nat} {e : Int} (hW : wrongO nameR o = if symsErr nameR o.code.length [] o.syms = 0 then relsErr nameR o.code.length 0 o.rels else symsErr nameR o.code.length [] o.syms) (hk : k < o.syms.length)
    (hE : symsErr nameR o.code.length [] o.syms = symsErr nameR o.code.length (o.syms.take k) (o.syms.drop k)) (he : symErr nameR o.code.length (o.syms.take k) o.syms[k] = e) (h0 : e ≠ 0) : wrongO nameR o = e := by
  rw [symsErr_at hk, he, if_neg h0] at hE
  rw [hW, hE, if_neg h0]

set_option maxHeartbeats 8000000 in
set_option maxRecDepth 100000 in
theorem rwrong_few (o : Ob) (cv sv rv : Value) (w : World) (hC : OBytes w cv o.code) (hS : OSyms w sv o.syms) (hR : ORels w rv o.rels) (h : ¬ (8000 < o.code.length ∨ 255 < o.syms.length ∨ 16000 < o.rels.length)) :
    Calls Try.prog 31 #[obV cv sv rv] w fun e w' => e = .returned (.int .i64 (wrongO nameR o)) ∧ Below w.heap.size w w' := by
  have HW : Hid (wrongO nameR o = if symsErr nameR o.code.length [] o.syms = 0 then relsErr nameR o.code.length 0 o.rels else symsErr nameR o.code.length [] o.syms) := by unfold Hid wrongO; rw [if_neg h]
  obtain ⟨cad, ccap, rfl, hcm, z1⟩ := hC
  obtain ⟨sad, scap, rfl, hsm, hsc⟩ := hS
  obtain ⟨rad, rcap, rfl, hrm, hrc⟩ := hR
  have HSC : Hid (0 < o.syms.length → ∃ b f, sad = some ⟨b, f, none⟩ ∧ b < w.heap.size ∧ ∀ i (h : i < o.syms.length),
    w.cell? ⟨b, f + i * 2, none⟩ = some (.string ⟨o.syms[i].name.toArray⟩) ∧ w.cell? ⟨b, f + i * 2 + 1, none⟩ = some (.int .i64 o.syms[i].pos)) := hsc
  have HRC : Hid (0 < o.rels.length → ∃ b f, rad = some ⟨b, f, none⟩ ∧ b < w.heap.size ∧ ∀ i (h : i < o.rels.length),
    w.cell? ⟨b, f + i * 4, none⟩ = some (.int .i64 o.rels[i].pos) ∧ w.cell? ⟨b, f + i * 4 + 1, none⟩ = some (.int .i64 o.rels[i].size) ∧
    w.cell? ⟨b, f + i * 4 + 2, none⟩ = some (.string ⟨o.rels[i].name.toArray⟩) ∧ w.cell? ⟨b, f + i * 4 + 3, none⟩ = some (.int .i64 o.rels[i].add)) := hrc
  clear z1 hsc hrc
  unfold maxLen at hcm hsm hrm
  unfold obV
  have h1 : ¬ (8000 : Int) < o.code.length := by omega
  have h2 : ¬ (255 : Int) < o.syms.length := by omega
  have h3 : ¬ (16000 : Int) < o.rels.length := by omega
  clear h
  go_enter Try.func31, Try.ntmps31
  go_wp2
  go_loopw [29] (fun i wr => ∃ k : Nat, k ≤ o.syms.length ∧ i = .int .i64 k ∧ Hid (WKeep w w.heap.size o (.slice cad o.code.length ccap) (.slice sad o.syms.length scap) (.slice rad o.rels.length rcap) wr) ∧ Hid (symsErr nameR o.code.length [] o.syms = symsErr nameR o.code.length (o.syms.take k) (o.syms.drop k))) (fun i _ => o.syms.length - (intOf i).toNat)
  case atStart => exact ⟨0, Nat.zero_le _, rfl, ⟨by simp, oalloc _ _, box3_new _ _ _ _ _⟩, rfl⟩
  case round =>
    obtain ⟨k, hk, rfl, HK, HE⟩ := hrel
    by_cases hlt : k < o.syms.length
    · have hk1 : (k : Int) < o.syms.length := by omega
      obtain ⟨b, f, rfl, hbl, hcell⟩ := HSC.out (by omega)
      have HCELL : Hid (∀ i (h : i < o.syms.length), w.cell? ⟨b, f + i * 2, none⟩ = some (.string ⟨o.syms[i].name.toArray⟩) ∧ w.cell? ⟨b, f + i * 2 + 1, none⟩ = some (.int .i64 o.syms[i].pos)) := hcell
      obtain ⟨wo, rfl⟩ : ∃ x, x = wr := ⟨_, rfl⟩
      obtain ⟨c0, c1⟩ := hcell k hlt
      have hz := HK.out.lt
      rw [← HK.out.bel.cell (by exact hbl)] at c0 c1
      obtain ⟨x0, x1, x2⟩ := HK.out.box
      obtain ⟨s, hs⟩ : ∃ s, s = o.syms[k] := ⟨_, rfl⟩
      rw [← hs] at c0 c1
      have HS : Hid (s = o.syms[k]) := hs
      have hnm := fun W => rname_any ⟨s.name.toArray⟩ W
      have HBX : Hid (WKeep w w.heap.size o (.slice cad o.code.length ccap) (.slice (some ⟨b, f, none⟩) o.syms.length scap) (.slice rad o.rels.length rcap) (wo.alloc (.cells #[.string ⟨s.name.toArray⟩, .int .i64 s.pos] 49))) := HK.out.next (oalloc _ _)
      clear hcell hs HK
      cases hN : nameR s.name
      · have HX : Hid (wrongO nameR o = 7) := wrong_sym HW.out hlt HE.out (by unfold symErr; rw [← HS.out, if_pos hN]) (by decide)
        have hnm2 : ∀ W, Calls Try.prog 48 #[.string ⟨s.name.toArray⟩] W fun e w' => e = .returned (.bool false) ∧ W = w' := fun W => by have := hnm W; rwa [show (⟨s.name.toArray⟩ : ByteArray).data.toList = s.name from rfl, hN] at this
        clear hnm HE
        go_wp2_with (go_at_call 48; refine (hnm2 _).mono ?_; rintro e w' ⟨rfl, rfl⟩)
        go_ret
        exact ⟨ret_int HX.out.symm, HBX.out.bel⟩
      · have hnm2 : ∀ W, Calls Try.prog 48 #[.string ⟨s.name.toArray⟩] W fun e w' => e = .returned (.bool true) ∧ W = w' := fun W => by have := hnm W; rwa [show (⟨s.name.toArray⟩ : ByteArray).data.toList = s.name from rfl, hN] at this
        have hkc : (k : Int) ≤ scap := by omega
        clear hnm
        go_wp2_with (go_at_call 48; refine (hnm2 _).mono ?_; rintro e w' ⟨rfl, rfl⟩)
        go_loopw [43] (fun i wr => ∃ j : Nat, j ≤ k ∧ i = .int .i64 j ∧ Hid (WKeep w w.heap.size o (.slice cad o.code.length ccap) (.slice (some ⟨b, f, none⟩) o.syms.length scap) (.slice rad o.rels.length rcap) wr) ∧ wo.heap.size < wr.heap.size ∧ Hid (wr.cell? ⟨wo.heap.size, 0, none⟩ = some (.string ⟨s.name.toArray⟩) ∧ wr.cell? ⟨wo.heap.size, 1, none⟩ = some (.int .i64 s.pos)) ∧ Hid ((o.syms.take j).any (fun t => decide (t.name = s.name)) = false)) (fun i _ => k - (intOf i).toNat)
        case atStart =>
          exact ⟨0, Nat.zero_le _, rfl, HBX, by simp, ⟨by rw [World.cell?_alloc_new]; rfl, by rw [World.cell?_alloc_new]; rfl⟩, rfl⟩
        case round =>
          obtain ⟨j, hj, rfl, HK2, hzo, HB2, HA⟩ := hrel
          by_cases hjk : j < k
          · have hj1 : (j : Int) < k := by omega
            obtain ⟨d0, d1⟩ := HCELL.out j (by omega)
            rw [← HK2.out.bel.cell (by exact hbl)] at d0 d1
            obtain ⟨t, ht⟩ : ∃ t, t = o.syms[j] := ⟨_, rfl⟩
            rw [← ht] at d0 d1
            have HT : Hid (t = o.syms[j]) := ht
            obtain ⟨e0, e1⟩ := HB2.out
            have HK3 : Hid (WKeep w w.heap.size o (.slice cad o.code.length ccap) (.slice (some ⟨b, f, none⟩) o.syms.length scap) (.slice rad o.rels.length rcap) (wr.alloc (.cells #[.string ⟨t.name.toArray⟩, .int .i64 t.pos] 49))) := HK2.out.next (oalloc _ _)
            have hbl2 : b < wr.heap.size := Nat.lt_trans hbl HK2.out.lt
            clear ht x0 x1 x2 c0 c1
            cases hq : (t.name == s.name)
            · have HA2 : Hid ((o.syms.take (j + 1)).any (fun t => decide (t.name = s.name)) = false) := any_step (by omega) HA.out (by rw [← HT.out]; simpa using hq)
              have HB3 : Hid ((wr.alloc (.cells #[.string ⟨t.name.toArray⟩, .int .i64 t.pos] 49)).cell? ⟨wo.heap.size, 0, none⟩ = some (.string ⟨s.name.toArray⟩) ∧ (wr.alloc (.cells #[.string ⟨t.name.toArray⟩, .int .i64 t.pos] 49)).cell? ⟨wo.heap.size, 1, none⟩ = some (.int .i64 s.pos)) :=
                ⟨((oalloc _ _).cell (by exact hzo)).trans e0, ((oalloc _ _).cell (by exact hzo)).trans e1⟩
              go_wp2
              exact ⟨⟨j + 1, by omega, by go_num, HK3, by simp; omega, HB3, HA2⟩, by simp [intOf]; omega⟩
            · have HX : Hid (wrongO nameR o = 7) := wrong_sym HW.out hlt HE.out (by
                unfold symErr
                rw [← HS.out, if_neg (by rw [hN]; decide), if_pos (any_hit (by omega) hjk (by rw [← HT.out]; simpa using hq))]) (by decide)
              go_wp2
              go_ret
              exact ⟨ret_int HX.out.symm, HK3.out.bel⟩
          · have hj1 : ¬ (j : Int) < k := by omega
            have hjk2 : j = k := by omega
            subst hjk2
            obtain ⟨e0, e1⟩ := HB2.out
            obtain ⟨y0, y1, y2⟩ := HK2.out.box
            have hzr := HK2.out.lt
            clear x0 x1 x2 c0 c1 HCELL
            by_cases hp0 : s.pos < 0
            · have HX : Hid (wrongO nameR o = 3) := wrong_sym HW.out hlt HE.out (by
                unfold symErr
                rw [← HS.out, if_neg (by rw [hN]; decide), if_neg (by rw [HA.out]; decide), if_pos (.inl hp0)]) (by decide)
              go_wp2
              go_ret
              exact ⟨ret_int HX.out.symm, HK2.out.bel⟩
            · by_cases hp1 : (o.code.length : Int) < s.pos
              · have HX : Hid (wrongO nameR o = 3) := wrong_sym HW.out hlt HE.out (by
                  unfold symErr
                  rw [← HS.out, if_neg (by rw [hN]; decide), if_neg (by rw [HA.out]; decide), if_pos (.inr hp1)]) (by decide)
                go_wp2
                go_ret
                exact ⟨ret_int HX.out.symm, HK2.out.bel⟩
              · have HE2 : Hid (symsErr nameR o.code.length [] o.syms = symsErr nameR o.code.length (o.syms.take (j + 1)) (o.syms.drop (j + 1))) := by
                  unfold Hid
                  rw [HE.out, symsErr_at hlt, if_pos]
                  unfold symErr
                  rw [← HS.out, if_neg (by rw [hN]; decide), if_neg (by rw [HA.out]; decide), if_neg (by omega)]
                clear HE
                go_wp2
                exact ⟨⟨j + 1, by omega, by go_num, HK2, HE2⟩, by simp [intOf]; omega⟩
    · have hk1 : ¬ (k : Int) < o.syms.length := by omega
      have HW2 : Hid (wrongO nameR o = relsErr nameR o.code.length 0 o.rels) := by
        unfold Hid
        rw [HW.out, if_pos (by rw [HE.out, symsErr_end (by omega)])]
      obtain ⟨x0, x1, x2⟩ := HK.out.box
      have hz := HK.out.lt
      clear HE HW HSC
      obtain ⟨wo, rfl⟩ : ∃ x, x = wr := ⟨_, rfl⟩
      go_wp2
      go_loopw [7, 68] (fun l i wr => ∃ (k : Nat) (last : Int), k ≤ o.rels.length ∧ i = .int .i64 k ∧ l = .int .i64 last ∧ 0 ≤ last ∧ last ≤ 8004 ∧ Hid (WKeep w w.heap.size o (.slice cad o.code.length ccap) (.slice sad o.syms.length scap) (.slice rad o.rels.length rcap) wr) ∧ Hid (wrongO nameR o = relsErr nameR o.code.length last (o.rels.drop k))) (fun _ i _ => o.rels.length - (intOf i).toNat)
      case atStart => exact ⟨0, 0, Nat.zero_le _, rfl, rfl, by decide, by decide, HK, HW2⟩
      case round =>
        obtain ⟨k, last, hk, rfl, rfl, hl0, hl1, HK, HE⟩ := hrel
        clear x0 x1 x2 hz
        by_cases hlt : k < o.rels.length
        · have hk1 : (k : Int) < o.rels.length := by omega
          obtain ⟨b, f, rfl, hbl, hcell⟩ := HRC.out (by omega)
          obtain ⟨c0, c1, c2, c3⟩ := hcell k hlt
          rw [← HK.out.bel.cell (by exact hbl)] at c0 c1 c2 c3
          obtain ⟨x0, x1, x2⟩ := HK.out.box
          have hz := HK.out.lt
          have hbl2 : b < wr.heap.size := Nat.lt_trans hbl HK.out.lt
          have HAT := Lib.hid (relsErr_at (nm := nameR) (len := o.code.length) (last := last) hlt)
          clear hcell
          generalize o.rels[k] = r at *
          obtain ⟨rp, rz, rn, ra⟩ := r
          simp only at c0 c1 c2 c3
          have HKB : Hid (WKeep w w.heap.size o (.slice cad o.code.length ccap) (.slice sad o.syms.length scap) (.slice (some ⟨b, f, none⟩) o.rels.length rcap) (wr.alloc (.cells #[.int .i64 rp, .int .i64 rz, .string ⟨rn.toArray⟩, .int .i64 ra] 51))) := HK.out.next (oalloc _ _)
          have HER : Hid (∀ e, relErr nameR o.code.length last ⟨rp, rz, rn, ra⟩ = e → e ≠ 0 → wrongO nameR o = e) := fun e he h0 => by rw [HE.out, HAT.out, he, if_neg h0]
          have HOK : Hid (relErr nameR o.code.length last ⟨rp, rz, rn, ra⟩ = 0 → wrongO nameR o = relsErr nameR o.code.length (rp + rz) (o.rels.drop (k + 1))) := fun he => by rw [HE.out, HAT.out, if_pos he]
          clear HK HE HAT
          have hnm : ∀ W, Calls Try.prog 48 #[.string ⟨rn.toArray⟩] W fun e w' => e = .returned (.bool (nameR rn)) ∧ W = w' := fun W => rname_any ⟨rn.toArray⟩ W
          by_cases hz24 : rz ≠ 2 ∧ rz ≠ 4
          · have e2 : (rz != 2) = true := by simpa using hz24.1
            have e4 : (rz != 4) = true := by simpa using hz24.2
            have HX : Hid (wrongO nameR o = 1) := HER.out 1 (by unfold relErr; rw [if_pos hz24]) (by decide)
            clear hz24
            go_wp2
            go_ret
            exact ⟨ret_int HX.out.symm, HKB.out.bel⟩
          · have hzz : rz = 2 ∨ rz = 4 := by omega
            clear hz24
            by_cases hp : rp < last ∨ 8000 < rp ∨ (o.code.length : Int) < rp + rz
            · have HX : Hid (wrongO nameR o = 3) := HER.out 3 (by unfold relErr; rw [if_neg (by simp only; omega), if_pos hp]) (by decide)
              rcases hzz with rfl | rfl
              all_goals
                by_cases hp1 : rp < last
                · clear hp
                  go_wp2
                  go_ret
                  exact ⟨ret_int HX.out.symm, HKB.out.bel⟩
                · by_cases hp2 : 8000 < rp
                  · clear hp
                    go_wp2
                    go_ret
                    exact ⟨ret_int HX.out.symm, HKB.out.bel⟩
                  · have hp3 := hp.resolve_left hp1 |>.resolve_left hp2
                    clear hp
                    go_wp2
                    go_ret
                    exact ⟨ret_int HX.out.symm, HKB.out.bel⟩
            · have hp1 : ¬ rp < last := fun h => hp (.inl h)
              have hp2 : ¬ 8000 < rp := fun h => hp (.inr (.inl h))
              have hp3 : ¬ (o.code.length : Int) < rp + rz := fun h => hp (.inr (.inr h))
              have hrp : 0 ≤ rp := by omega
              by_cases hal : rp % rz = 0
              · by_cases hn : rn ≠ [] ∧ nameR rn = false
                · have HX : Hid (wrongO nameR o = 7) := HER.out 7 (by unfold relErr; rw [if_neg (by simp only; omega), if_neg hp, if_neg (by simpa using hal), if_pos hn]) (by decide)
                  have n1 : (rn == []) = false := by simpa using hn.1
                  rw [hn.2] at hnm
                  clear hn hp
                  rcases hzz with rfl | rfl
                  all_goals
                    have hal2 : (rp % _ != 0) = false := bne_eq_false_iff_eq.2 hal
                    go_wp2_with (go_at_call 48; refine (hnm _).mono ?_; rintro e w' ⟨rfl, rfl⟩)
                    go_ret
                    exact ⟨ret_int HX.out.symm, HKB.out.bel⟩
                · have HN0 : Hid (ra = wrap32 ra → relErr nameR o.code.length last ⟨rp, rz, rn, ra⟩ = 0) := fun ha => by
                    unfold relErr; rw [if_neg (by simp only; omega), if_neg hp, if_neg (by simpa using hal), if_neg hn, if_neg (by simpa using ha)]
                  have HN3 : Hid (ra ≠ wrap32 ra → relErr nameR o.code.length last ⟨rp, rz, rn, ra⟩ = 3) := fun ha => by
                    unfold relErr; rw [if_neg (by simp only; omega), if_neg hp, if_neg (by simpa using hal), if_neg hn, if_pos ha]
                  have HQ : Hid (∀ wy, Below (wr.heap.size + 1) (wr.alloc (.cells #[.int .i64 rp, .int .i64 rz, .string ⟨rn.toArray⟩, .int .i64 ra] 51)) wy → WKeep w w.heap.size o (.slice cad o.code.length ccap) (.slice sad o.syms.length scap) (.slice (some ⟨b, f, none⟩) o.rels.length rcap) wy ∧
                      wy.cell? ⟨wr.heap.size, 0, none⟩ = some (.int .i64 rp) ∧ wy.cell? ⟨wr.heap.size, 1, none⟩ = some (.int .i64 rz) ∧ wr.heap.size < wy.heap.size) := fun wy hby =>
                    ⟨HKB.out.next (by simpa using hby), (hby.cell (by show wr.heap.size < wr.heap.size + 1; omega)).trans (by rw [World.cell?_alloc_new]; rfl), (hby.cell (by show wr.heap.size < wr.heap.size + 1; omega)).trans (by rw [World.cell?_alloc_new]; rfl), by have := hby.size; simp at this; omega⟩
                  clear hp
                  by_cases hn0 : rn = []
                  · have n1 : (rn == []) = true := by simpa using hn0
                    clear hn hn0 hnm
                    rcases hzz with rfl | rfl
                    all_goals
                      have hal2 : (rp % _ != 0) = false := bne_eq_false_iff_eq.2 hal
                      go_wp2
                      go_quiet ((go_at_call 33; exact Calls.quiet_of_same (rsigned_ob _ _)))
                      generalize hwy : World.drewN _ _ = wy
                      obtain ⟨hky, y0, y1, hzy⟩ := HQ.out wy (by subst hwy; exact Go.Joins.below_draws _ _ _)
                      have HKY := Lib.hid hky
                      clear hwy hky HKB HQ x0 x1 x2 c0 c1 c2 c3
                      by_cases ha : ra = wrap32 ra
                      · have ha2 : (ra != wrap32 ra) = false := bne_eq_false_iff_eq.2 ha
                        have HO := Lib.hid (HOK.out (HN0.out ha))
                        clear ha
                        go_wp2
                        exact ⟨⟨k + 1, _, by omega, by go_num, by go_num, by omega, by omega, HKY, HO⟩, by simp [intOf]; omega⟩
                      · have ha2 : (ra != wrap32 ra) = true := bne_iff_ne.2 ha
                        have HX := Lib.hid (HER.out 3 (HN3.out ha) (by decide))
                        clear ha
                        go_wp2
                        go_ret
                        exact ⟨ret_int HX.out.symm, HKY.out.bel⟩
                  · have n1 : (rn == []) = false := by simpa using hn0
                    have n2 : nameR rn = true := by
                      cases h : nameR rn
                      · exact absurd ⟨hn0, h⟩ hn
                      · rfl
                    rw [n2] at hnm
                    clear hn hn0 n2
                    rcases hzz with rfl | rfl
                    all_goals
                      have hal2 : (rp % _ != 0) = false := bne_eq_false_iff_eq.2 hal
                      go_wp2_with (go_at_call 48; refine (hnm _).mono ?_; rintro e w' ⟨rfl, rfl⟩)
                      go_quiet ((go_at_call 33; exact Calls.quiet_of_same (rsigned_ob _ _)))
                      generalize hwy : World.drewN _ _ = wy
                      obtain ⟨hky, y0, y1, hzy⟩ := HQ.out wy (by subst hwy; exact Go.Joins.below_draws _ _ _)
                      have HKY := Lib.hid hky
                      clear hwy hky HKB HQ x0 x1 x2 c0 c1 c2 c3
                      by_cases ha : ra = wrap32 ra
                      · have ha2 : (ra != wrap32 ra) = false := bne_eq_false_iff_eq.2 ha
                        have HO := Lib.hid (HOK.out (HN0.out ha))
                        clear ha
                        go_wp2
                        exact ⟨⟨k + 1, _, by omega, by go_num, by go_num, by omega, by omega, HKY, HO⟩, by simp [intOf]; omega⟩
                      · have ha2 : (ra != wrap32 ra) = true := bne_iff_ne.2 ha
                        have HX := Lib.hid (HER.out 3 (HN3.out ha) (by decide))
                        clear ha
                        go_wp2
                        go_ret
                        exact ⟨ret_int HX.out.symm, HKY.out.bel⟩
              · have HX : Hid (wrongO nameR o = 11) := HER.out 11 (by unfold relErr; rw [if_neg (by simp only; omega), if_neg hp, if_pos hal]) (by decide)
                clear hp
                rcases hzz with rfl | rfl
                all_goals
                  have hal2 : (rp % _ != 0) = true := bne_iff_ne.2 hal
                  go_wp2
                  go_ret
                  exact ⟨ret_int HX.out.symm, HKB.out.bel⟩
        · have hk1 : ¬ (k : Int) < o.rels.length := by omega
          have HX : Hid (wrongO nameR o = 0) := by unfold Hid; rw [HE.out, relsErr_end (by omega)]
          clear HE
          go_wp2
          go_ret
          exact ⟨ret_int HX.out.symm, HK.out.bel⟩

theorem rwrong_any (o : Ob) (cv sv rv : Value) (w : World) (hC : OBytes w cv o.code) (hS : OSyms w sv o.syms) (hR : ORels w rv o.rels) :
    Calls Try.prog 31 #[obV cv sv rv] w fun e w' => e = .returned (.int .i64 (wrongO nameR o)) ∧ Below w.heap.size w w' := by
  by_cases h : 8000 < o.code.length ∨ 255 < o.syms.length ∨ 16000 < o.rels.length
  · have e : wrongO nameR o = 4 := by unfold wrongO; rw [if_pos h]
    rw [e]
    exact rwrong_much o cv sv rv w hC hS hR h
  · exact rwrong_few o cv sv rv w hC hS hR h

end Go.Proofs.Ytalghejeekajgad
