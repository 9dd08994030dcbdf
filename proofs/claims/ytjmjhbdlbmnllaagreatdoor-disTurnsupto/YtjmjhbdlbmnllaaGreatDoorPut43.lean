/- asm: a pool of one value laid. asm: a line read: what its parts make. asm: the bytes of an instruction that leads. asm: the bytes of a value that is a place: a reloc is kept. -/
import Derived.Test.YtjmjhbdlbmnllaaGreatDoorPut40
import Derived.Test.YtjmjhbdlbmnllaaGreatDoorPut36
import Derived.Test.YtjmjhbdlbmnllaaGreatDoorUeF
import Derived.Test.YtjmjhbdlbmnllaaGreatDoorPut42
import Derived.Test.YtjmjhbdlbmnllaaGreatDoorPut39
namespace Go.Proofs.YtjmjhbdlbmnllaaGreatDoor
open Go.RowKit

end Go.Proofs.YtjmjhbdlbmnllaaGreatDoor

namespace Go.Proofs.YtjmjhbdlbmnllaaGreatDoor
open Go.RowKit

/-- Words that are no instructions. -/
def dirs : List (List UInt8) := [[46, 98, 121, 116, 101], [46, 119, 111, 114, 100], [46, 108, 111, 110, 103], [46, 97, 108, 105, 103, 110], [46, 112, 111, 111, 108]]

set_option maxHeartbeats 2000000 in
theorem statement_of (gu : Nat) (name : ByteArray) (oa : Option Addr) (on oc : Nat) (w : World) (Q : World → Prop) (hn : name.toList ∉ dirs) (h : Calls Tryz.prog 102 #[.pointer (some ⟨gu, 0, none⟩), .string name, .slice oa on oc] w fun r w' => r = .returned (.int .i64 0) ∧ Q w') :
    Calls Tryz.prog 56 #[.pointer (some ⟨gu, 0, none⟩), .string name, .slice oa on oc] w fun r w' => r = .returned (.int .i64 0) ∧ Q w' := by
  have H := Lib.hid h
  simp only [dirs, List.mem_cons, List.not_mem_nil, or_false, not_or] at hn
  obtain ⟨n1, n2, n3, n4, n5⟩ := hn
  replace n1 := beq_eq_false_iff_ne.2 n1
  replace n2 := beq_eq_false_iff_ne.2 n2
  replace n3 := beq_eq_false_iff_ne.2 n3
  replace n4 := beq_eq_false_iff_ne.2 n4
  replace n5 := beq_eq_false_iff_ne.2 n5
  clear h
  go_enter Tryz.func56, Tryz.ntmps56
  go_wp2_with (first | (go_at_call 102; refine H.out.mono ?_; rintro e w1 ⟨rfl, hq⟩) | fail)
  go_ret
  exact ⟨rfl, hq⟩

set_option maxHeartbeats 4000000 in
/-- A line: what stands behind its labels is a word and operands. -/
theorem read_gen (gu : Nat) (v : Value) (hn : Int) (ht : ByteArray) (rest : List Tk) (ops : List Opd) (w0 w : World) (PL Q : World → Prop)
    (hlab : Calls Tryz.prog 52 #[.pointer (some ⟨gu, 0, none⟩), v] w fun r w1 => ∃ v', r = .returned (.tuple #[v', .int .i64 0]) ∧ PReads w0 v' (⟨1, hn, ht⟩ :: rest) ∧ PL w1)
    (hst : ∀ W W', PL W → Below W.heap.size W W' → PL W') (hB : ∀ W, PL W → Below w0.heap.size w0 W)
    (hop : ∀ W v2, PL W → PReads w0 v2 rest → Calls Tryz.prog 55 #[.pointer (some ⟨gu, 0, none⟩), v2] W fun r w' => (∃ oa oc, r = .returned (.tuple #[.slice oa ops.length oc, .int .i64 0]) ∧ OpsR w' oa ops) ∧ Below W.heap.size W w')
    (hs : ∀ W oa oc, PL W → OpsR W oa ops → Calls Tryz.prog 56 #[.pointer (some ⟨gu, 0, none⟩), .string ht, .slice oa ops.length oc] W fun r w' => r = .returned (.int .i64 0) ∧ Q w') (hv : ∃ ad l c, v = .slice ad l c) :
    Calls Tryz.prog 34 #[.pointer (some ⟨gu, 0, none⟩), v] w fun r w' => r = .returned (.int .i64 0) ∧ Q w' := by
  have HLB := Lib.hid hlab
  have HN := Lib.hid fun v' W (hp : PL W) (hv : PReads w0 v' (⟨1, hn, ht⟩ :: rest)) => next_at v' _ w0 W hv (hB W hp)
  have HAW := Lib.hid fun W => aword_any 1 hn ht W
  have HOP := Lib.hid hop
  have HST := Lib.hid hs
  have HGO := Lib.hid hst
  obtain ⟨ad, vl, vc, rfl⟩ := hv
  clear hlab hop hs hst hB
  unfold Tk.V tokV headT at *
  simp only [List.tail_cons] at *
  go_enter Tryz.func34, Tryz.ntmps34
  go_wp2_with fail
  refine HLB.out.mono ?_
  rintro e w1 ⟨v1, rfl, hv1, hp1⟩
  obtain ⟨ad1, cap1, hv1s, _⟩ := id hv1
  simp only [List.length_cons] at hv1s
  subst hv1s
  have HV1 := Lib.hid hv1
  have HP1 := Lib.hid hp1
  clear hv1 hp1 HLB
  go_wp2_with fail
  refine (HN.out _ _ HP1.out HV1.out).mono ?_
  rintro e w2 ⟨⟨v2, rfl, hv2⟩, hb2⟩
  obtain ⟨ad2, cap2, hv2s, _⟩ := id hv2
  subst hv2s
  have HV2 := Lib.hid hv2
  have HP2 := Lib.hid (HGO.out _ _ HP1.out hb2)
  clear hv2 hb2 HN HP1
  go_wp2_with fail
  refine (HAW.out _).mono ?_
  rintro e w3 ⟨rfl, hb3⟩
  obtain ⟨hB3, hz3, xr⟩ := box_keep hb3
  have HP3 := Lib.hid (HGO.out _ _ HP2.out hB3)
  have XR := Lib.hid xr
  clear hb3 hB3 xr HP2
  go_wp2_with fail
  refine (HOP.out _ _ HP3.out HV2.out).mono ?_
  rintro e w4 ⟨⟨oa, oc, rfl, ho4⟩, hb4⟩
  have xr4 := (hb4.block _ hz3).trans XR.out
  have t2 : w4.cell? ⟨w2.heap.size, 2, none⟩ = some (.string ht) := blk_cell xr4 rfl
  have hz4 := blk_lt xr4
  have HC := Lib.hid (HST.out w4 oa oc (HGO.out _ _ HP3.out hb4) ho4)
  clear ho4 hb4 xr4 XR HST HOP HAW HP3 HV1 HV2
  go_wp2_with (first | (go_at_call 56; refine HC.out.mono ?_; rintro e w5 ⟨rfl, hq⟩) | fail)
  go_ret
  exact ⟨rfl, hq⟩

end Go.Proofs.YtjmjhbdlbmnllaaGreatDoor
