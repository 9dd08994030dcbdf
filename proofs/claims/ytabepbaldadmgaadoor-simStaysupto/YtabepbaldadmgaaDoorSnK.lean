/- The program's own sim: do, of any instruction; where one leads. -/
import Derived.Test.YtabepbaldadmgaaDoorSnI
import Derived.Test.YtabepbaldadmgaaDoorSnJ
namespace Go.Proofs.YtabepbaldadmgaaDoor
open Go.RowKit Isa

theorem load_plain (m : Ma) (op n mm imm at' size : Int) (h : (op = 23 ∧ size = 2) ∨ (op = 24 ∧ size = 4)) : plainE m op n mm imm at' = (if hasB m (toI op imm at') size = false then 3 else 0) ∧ plainM m op n mm imm at' = (if hasB m (toI op imm at') size = false then m else setR m n.toNat (loadS m (toI op imm at') size)) := by
  rcases h with ⟨rfl, rfl⟩ | ⟨rfl, rfl⟩
  · constructor
    · unfold plainE memAt memSz
      simp
    · unfold plainM memAt memSz
      simp
  · constructor
    · unfold plainE memAt memSz
      simp
    · unfold plainM memAt memSz
      simp

set_option maxHeartbeats 4000000 in
theorem do_load (K g : Nat) (m : Ma) (gb bc : Nat) (s0 : Option Addr) (s1 s2 : Nat) (ta : Option Addr) (tc : Nat) (op n mm imm at' : Int) (W : World) (h : MR K g m gb bc (.slice s0 s1 s2) ta tc W) (hM : MOk m) (ha0 : 0 ≤ at') (ha1 : at' ≤ 1000000000000) (hi0 : -10000 ≤ imm) (hi1 : imm ≤ 10000) (hn0 : 0 ≤ n) (hn1 : n ≤ 15) (hop : op = 23 ∨ op = 24) :
    Calls Tryd.prog 35 #[.pointer (some ⟨g, 0, none⟩), .agg #[.int .i64 op, .int .i64 n, .int .i64 mm, .int .i64 imm], .int .i64 at'] W fun e W' => e = .returned (.int .i64 (plainE m op n mm imm at')) ∧ PP K K g gb bc (.slice s0 s1 s2) (plainM m op n mm imm at') W W' := by
  obtain ⟨V, hV⟩ : ∃ V, V = W.alloc (.cells #[.int .i64 op, .int .i64 n, .int .i64 mm, .int .i64 imm] 45) := ⟨_, rfl⟩
  have hb : Below W.heap.size W V := by rw [hV]; exact oalloc _ _
  have kV : V.heap[W.heap.size]? = some (.cells #[.int .i64 op, .int .i64 n, .int .i64 mm, .int .i64 imm] 45 (0, 0)) := by rw [hV]; exact blk_new _ _ _
  have c0 := cell_of_block (i := 0) kV rfl
  have c1 := cell_of_block (i := 1) kV rfl
  have c2 := cell_of_block (i := 2) kV rfl
  have c3 := cell_of_block (i := 3) kV rfl
  have HV := Lib.hid hV.symm
  rcases hop with hop | hop
  · have HC : Hid (Calls Tryd.prog 45 #[.pointer (some ⟨g, 0, none⟩), .agg #[.int .i64 op, .int .i64 n, .int .i64 mm, .int .i64 imm], .int .i64 at', .int .i64 2] V fun e W' => e = .returned (.int .i64 (plainE m op n mm imm at')) ∧ PP K K g gb bc (.slice s0 s1 s2) (plainM m op n mm imm at') W W') := by
      rw [(load_plain m op n mm imm at' 2 (Or.inl ⟨hop, rfl⟩)).1, (load_plain m op n mm imm at' 2 (Or.inl ⟨hop, rfl⟩)).2]
      exact (load_any K g m gb bc s0 s1 s2 ta tc op n mm imm at' 2 V (h.next hb) (Or.inl rfl) hM ha0 ha1 hi0 hi1 hn0 hn1).mono fun _ _ ⟨h1, h2⟩ => ⟨h1, PP.after hb h2 h.kz⟩
    have ho1 : 23 ≤ op := by omega
    have ho2 : op ≤ 23 := by omega
    clear hV hb kV h hM hop
    generalize plainE m op n mm imm at' = EE at *
    generalize plainM m op n mm imm at' = MM at *
    go_enter Tryd.func35, Tryd.ntmps35
    go_upto_region 1 with fail
    rw [HV.out]
    clear HV
    go_wp2_with (first | (go_at_call 45; refine HC.out.mono ?_; rintro e W2 ⟨rfl, hp2⟩; have HP2 := Lib.hid hp2; clear hp2) | fail)
    go_ret
    exact ⟨rfl, HP2.out⟩
  · have HC : Hid (Calls Tryd.prog 45 #[.pointer (some ⟨g, 0, none⟩), .agg #[.int .i64 op, .int .i64 n, .int .i64 mm, .int .i64 imm], .int .i64 at', .int .i64 4] V fun e W' => e = .returned (.int .i64 (plainE m op n mm imm at')) ∧ PP K K g gb bc (.slice s0 s1 s2) (plainM m op n mm imm at') W W') := by
      rw [(load_plain m op n mm imm at' 4 (Or.inr ⟨hop, rfl⟩)).1, (load_plain m op n mm imm at' 4 (Or.inr ⟨hop, rfl⟩)).2]
      exact (load_any K g m gb bc s0 s1 s2 ta tc op n mm imm at' 4 V (h.next hb) (Or.inr rfl) hM ha0 ha1 hi0 hi1 hn0 hn1).mono fun _ _ ⟨h1, h2⟩ => ⟨h1, PP.after hb h2 h.kz⟩
    have ho1 : 24 ≤ op := by omega
    have ho2 : op ≤ 24 := by omega
    clear hV hb kV h hM hop
    generalize plainE m op n mm imm at' = EE at *
    generalize plainM m op n mm imm at' = MM at *
    go_enter Tryd.func35, Tryd.ntmps35
    go_upto_region 1 with fail
    rw [HV.out]
    clear HV
    go_wp2_with (first | (go_at_call 45; refine HC.out.mono ?_; rintro e W2 ⟨rfl, hp2⟩; have HP2 := Lib.hid hp2; clear hp2) | fail)
    go_ret
    exact ⟨rfl, HP2.out⟩

theorem do_any (K g : Nat) (m : Ma) (gb bc : Nat) (s0 : Option Addr) (s1 s2 : Nat) (ta : Option Addr) (tc : Nat) (op n mm imm at' : Int) (W : World) (h : MR K g m gb bc (.slice s0 s1 s2) ta tc W) (hM : MOk m) (hr : ∀ k, in32 (m.r k)) (hbc : m.by'.length ≤ bc) (ha0 : 0 ≤ at') (ha1 : at' ≤ 1000000000000) (hi0 : -10000 ≤ imm) (hi1 : imm ≤ 10000) (hn0 : 0 ≤ n) (hn1 : n ≤ 15) (hm0 : 0 ≤ mm) (hm1 : mm ≤ 15) (ho : op = 1 ∨ (3 ≤ op ∧ op ≤ 16) ∨ (23 ≤ op ∧ op ≤ 27)) :
    Calls Tryd.prog 35 #[.pointer (some ⟨g, 0, none⟩), .agg #[.int .i64 op, .int .i64 n, .int .i64 mm, .int .i64 imm], .int .i64 at'] W fun e W' => e = .returned (.int .i64 (plainE m op n mm imm at')) ∧ PP K K g gb bc (.slice s0 s1 s2) (plainM m op n mm imm at') W W' := by
  by_cases h1 : op ≤ 10
  · exact do_made K g m gb bc s0 s1 s2 ta tc op n mm imm at' W h hM hr ha0 ha1 hi0 hi1 hn0 hn1 hm0 hm1 (by omega)
  · obtain e | e | e | e | e | e | e | e | e | e : op = 11 ∨ op = 12 ∨ op = 13 ∨ op = 14 ∨ op = 15 ∨ op = 16 ∨ (op = 23 ∨ op = 24) ∨ op = 25 ∨ op = 26 ∨ op = 27 := by omega
    · exact do_h11 K g m gb bc s0 s1 s2 ta tc op n mm imm at' W h hM hr ha0 ha1 hi0 hi1 hn0 hn1 hm0 hm1 (by omega) e
    · exact do_h12 K g m gb bc s0 s1 s2 ta tc op n mm imm at' W h hM hr ha0 ha1 hi0 hi1 hn0 hn1 hm0 hm1 (by omega) e
    · exact do_h13 K g m gb bc s0 s1 s2 ta tc op n mm imm at' W h hM hr ha0 ha1 hi0 hi1 hn0 hn1 hm0 hm1 (by omega) e
    · exact do_h14 K g m gb bc s0 s1 s2 ta tc op n mm imm at' W h hM hr ha0 ha1 hi0 hi1 hn0 hn1 hm0 hm1 (by omega) e
    · exact do_h15 K g m gb bc s0 s1 s2 ta tc op n mm imm at' W h hM hr ha0 ha1 hi0 hi1 hn0 hn1 hm0 hm1 (by omega) e
    · exact do_h16 K g m gb bc s0 s1 s2 ta tc op n mm imm at' W h hM hr ha0 ha1 hi0 hi1 hn0 hn1 hm0 hm1 (by omega) e
    · exact do_load K g m gb bc s0 s1 s2 ta tc op n mm imm at' W h hM ha0 ha1 hi0 hi1 hn0 hn1 e
    · exact do_put K g m gb bc s0 s1 s2 ta tc op n mm imm at' W h hM hr ha0 ha1 hi0 hi1 hn0 hn1 hm0 hm1 e hbc
    · exact do_get K g m gb bc s0 s1 s2 ta tc op n mm imm at' W h hM hr ha0 ha1 hi0 hi1 hn0 hn1 hm0 hm1 e
    · exact do_told K g m gb bc s0 s1 s2 ta tc op n mm imm at' W h hM hr ha0 ha1 hi0 hi1 hn0 hn1 hm0 hm1 e

end Go.Proofs.YtabepbaldadmgaaDoor
