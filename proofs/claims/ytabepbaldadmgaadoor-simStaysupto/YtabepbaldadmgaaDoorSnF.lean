/- The program's own sim: load, and do: what reads the image. -/
import Derived.Test.YtabepbaldadmgaaDoorSnE
namespace Go.Proofs.YtabepbaldadmgaaDoor
open Go.RowKit Isa

set_option maxHeartbeats 2000000 in
theorem load_any (K g : Nat) (m : Ma) (gb bc : Nat) (s0 : Option Addr) (s1 s2 : Nat) (ta : Option Addr) (tc : Nat) (op n mm imm at' size : Int) (W : World) (h : MR K g m gb bc (.slice s0 s1 s2) ta tc W) (hs : size = 2 ∨ size = 4) (hM : MOk m) (ha0 : 0 ≤ at') (ha1 : at' ≤ 1000000000000) (hi0 : -10000 ≤ imm) (hi1 : imm ≤ 10000) (hn0 : 0 ≤ n) (hn1 : n ≤ 15) :
    Calls Tryd.prog 45 #[.pointer (some ⟨g, 0, none⟩), .agg #[.int .i64 op, .int .i64 n, .int .i64 mm, .int .i64 imm], .int .i64 at', .int .i64 size] W fun e W' => e = .returned (.int .i64 (if hasB m (toI op imm at') size = false then 3 else 0)) ∧ PP W.heap.size K g gb bc (.slice s0 s1 s2) (if hasB m (toI op imm at') size = false then m else setR m n.toNat (loadS m (toI op imm at') size)) W W' := by
  have hto := toI_near op imm at' ha0 hi0 hi1
  obtain ⟨V, hV⟩ : ∃ V, V = W.alloc (.cells #[.int .i64 op, .int .i64 n, .int .i64 mm, .int .i64 imm] 45) := ⟨_, rfl⟩
  have hb : Below W.heap.size W V := by rw [hV]; exact oalloc _ _
  have kV : V.heap[W.heap.size]? = some (.cells #[.int .i64 op, .int .i64 n, .int .i64 mm, .int .i64 imm] 45 (0, 0)) := by rw [hV]; exact blk_new _ _ _
  have hT := to_any op n mm imm at' V (h.la.below hb h.la.sz) ha0 ha1 hi0 hi1
  have HG : Hid (∀ X, Below W.heap.size W X → Calls Tryd.prog 46 #[.pointer (some ⟨g, 0, none⟩), .int .i64 n, .int .i64 (toI op imm at'), .int .i64 size] X fun e W' => e = .returned (.int .i64 (if hasB m (toI op imm at') size = false then 3 else 0)) ∧ PP W.heap.size K g gb bc (.slice s0 s1 s2) (if hasB m (toI op imm at') size = false then m else setR m n.toNat (loadS m (toI op imm at') size)) W W') := fun X hX => by
    have hMR := h.next hX
    by_cases hh : hasB m (toI op imm at') size = false
    · rw [if_pos hh, if_pos hh]
      exact (get_no K g m gb bc s0 s1 s2 ta tc n (toI op imm at') size X hMR hs hM (by omega) (by omega) hh).mono fun _ _ ⟨h1, h2⟩ => ⟨h1, PP.after hX (PP.of hMR h2 (Nat.le_refl _)) (Nat.le_refl _)⟩
    · rw [if_neg hh, if_neg hh]
      exact (get_yes K g m gb bc s0 s1 s2 ta tc n (toI op imm at') size X hMR hs hM (by omega) (by omega) hn0 hn1 (by simpa using hh)).mono fun _ _ ⟨h1, h2⟩ => ⟨h1, PP.after hX h2 (Nat.le_refl _)⟩
  have HT := Lib.hid hT
  have c0 := cell_of_block (i := 0) kV rfl
  have c1 := cell_of_block (i := 1) kV rfl
  have c2 := cell_of_block (i := 2) kV rfl
  have c3 := cell_of_block (i := 3) kV rfl
  have hlt := (Array.getElem?_eq_some_iff.1 kV).1
  have HV := Lib.hid hV.symm
  have HB := Lib.hid hb
  have HK := Lib.hid kV
  clear hV hb kV hT h hM
  generalize (if hasB m (toI op imm at') size = false then (3 : Int) else 0) = EE at *
  generalize (if hasB m (toI op imm at') size = false then m else setR m n.toNat (loadS m (toI op imm at') size)) = MM at *
  generalize toI op imm at' = to' at *
  generalize toB op = tb at *
  go_enter Tryd.func45, Tryd.ntmps45
  go_upto_region 1 with fail
  rw [HV.out]
  go_wp2_with (first | (go_at_call 57; refine HT.out.mono ?_; rintro e W1 ⟨rfl, hb1⟩; have c1' : W1.cell? ⟨W.heap.size, 1, none⟩ = some (.int .i64 n) := cell_of_block (i := 1) ((hb1.block _ hlt).trans HK.out) rfl; have HB1 := Lib.hid (HB.out.trans (hb1.mono HB.out.size)); clear hb1) | (go_at_call 46; refine (HG.out _ HB1.out).mono ?_; rintro e W2 ⟨rfl, hp2⟩; have HP2 := Lib.hid hp2; clear hp2) | fail)
  go_ret
  exact ⟨rfl, HP2.out⟩

theorem get_either (K g : Nat) (m : Ma) (gb bc : Nat) (s0 : Option Addr) (s1 s2 : Nat) (ta : Option Addr) (tc : Nat) (n a size : Int) (X : World) (h : MR K g m gb bc (.slice s0 s1 s2) ta tc X) (hs : size = 2 ∨ size = 4) (hM : MOk m) (ha0 : -4611686018427387904 ≤ a) (ha1 : a ≤ 4611686018427387904) (hn0 : 0 ≤ n) (hn1 : n ≤ 15) :
    Calls Tryd.prog 46 #[.pointer (some ⟨g, 0, none⟩), .int .i64 n, .int .i64 a, .int .i64 size] X fun e W' => e = .returned (.int .i64 (if hasB m a size = false then 3 else 0)) ∧ PP X.heap.size K g gb bc (.slice s0 s1 s2) (if hasB m a size = false then m else setR m n.toNat (loadS m a size)) X W' := by
  by_cases hh : hasB m a size = false
  · rw [if_pos hh, if_pos hh]
    exact (get_no K g m gb bc s0 s1 s2 ta tc n a size X h hs hM ha0 ha1 hh).mono fun _ _ ⟨h1, h2⟩ => ⟨h1, PP.of h h2 (Nat.le_refl _)⟩
  · rw [if_neg hh, if_neg hh]
    exact get_yes K g m gb bc s0 s1 s2 ta tc n a size X h hs hM ha0 ha1 hn0 hn1 (by simpa using hh)
theorem put_either (K g : Nat) (m : Ma) (gb bc : Nat) (s0 : Option Addr) (s1 s2 : Nat) (ta : Option Addr) (tc : Nat) (a n : Int) (X : World) (h : MR K g m gb bc (.slice s0 s1 s2) ta tc X) (hM : MOk m) (ha0 : -4611686018427387904 ≤ a) (ha1 : a ≤ 4611686018427387904) (hbc : m.by'.length ≤ bc) :
    Calls Tryd.prog 47 #[.pointer (some ⟨g, 0, none⟩), .int .i64 a, .int .i64 n] X fun e W' => e = .returned (.int .i64 (if hasB m a 4 = false then 3 else 0)) ∧ PP X.heap.size K g gb bc (.slice s0 s1 s2) (if hasB m a 4 = false then m else { m with by' := putS m a n }) X W' := by
  by_cases hh : hasB m a 4 = false
  · rw [if_pos hh, if_pos hh]
    exact (put_no K g m gb bc s0 s1 s2 ta tc a n X h hM ha0 ha1 hh).mono fun _ _ ⟨h1, h2⟩ => ⟨h1, PP.of h h2 (Nat.le_refl _)⟩
  · rw [if_neg hh, if_neg hh]
    exact put_yes K g m gb bc s0 s1 s2 ta tc a n X h hM ha0 ha1 (by simpa using hh) hbc

end Go.Proofs.YtabepbaldadmgaaDoor
