import Derived.Test.YtgjmbjahgcndnaaGreatDoorPut15
namespace Go.Proofs.YtgjmbjahgcndnaaGreatDoor.Si
open Go.RowKit Isa
def Res (op : Int) : Prop := op = 3 \/ op = 4 \/ op = 27
theorem qLq (K g : Nat) (m : Ma) (gb bc : Nat) (s0 : Option Addr) (s1 s2 : Nat) (ta : Option Addr) (tc : Nat) (op n mm imm at' : Int) (W : World) (h : MR K g m gb bc (.slice s0 s1 s2) ta tc W) (hM : MOk m) (hr : ∀ k, in32 (m.r k)) (_hbc : m.by'.length <= bc) (ha0 : 0 <= at') (ha1 : at' <= 1000000000000) (hi0 : -10000 <= imm) (hi1 : imm <= 10000) (hn0 : 0 <= n) (hn1 : n <= 15) (hm0 : 0 <= mm) (hm1 : mm <= 15) (ho : op = 1 \/ (3 <= op /\ op <= 16) \/ (23 <= op /\ op <= 27)) (hres : Res op) :
  Calls Tryz.prog 29 #[.pointer (some ⟨g, 0, none⟩), .agg #[.int .i64 op, .int .i64 n, .int .i64 mm, .int .i64 imm], .int .i64 at'] W fun e W' => e = .returned (.int .i64 (qBX m op n mm imm at')) /\ PP K K g gb bc (.slice s0 s1 s2) (qAB m op n mm imm at') W W' := by
 by_cases h1 : op <= 10
 ·exact do_made K g m gb bc s0 s1 s2 ta tc op n mm imm at' W h hM hr ha0 ha1 hi0 hi1 hn0 hn1 hm0 hm1 (by omega)
 ·have e : op = 27 := by unfold Res at hres; omega
  exact do_told K g m gb bc s0 s1 s2 ta tc op n mm imm at' W h hM hr ha0 ha1 hi0 hi1 hn0 hn1 hm0 hm1 e
end Go.Proofs.YtgjmbjahgcndnaaGreatDoor.Si
