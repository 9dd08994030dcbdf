/- Machines: what they are, and how they lie in memory. The fields of what a half word is decoded to. -/
import Derived.Test.YtabepbaldadmgaaDoorPut8
import Derived.Test.YtabepbaldadmgaaDoorIsaRefB
import Derived.Test.YtabepbaldadmgaaDoorPut13
import Derived.Test.YtabepbaldadmgaaDoorIsaTurn
namespace Go.Proofs.YtabepbaldadmgaaDoor
open Go.RowKit Isa

/-- A machine. -/
structure Ma where
  r : Nat → Int
  t : Bool
  pc : Int
  pr : Int
  base : Int
  by' : List UInt8
  told : List Int
  st : Int
def bsOf (l : List UInt8) (i : Nat) : Int := ((l.getD i 0).toNat : Int)
theorem bsOf_byte (l : List UInt8) : IsByte (bsOf l) := fun i => by
  have := (l.getD i 0).toNat_lt
  unfold bsOf; omega

/-- So many bytes are there. -/
def hasB (m : Ma) (a size : Int) : Bool := decide (m.base ≤ a) && (decide (a % size = 0) && decide (a + size ≤ m.base + m.by'.length))
/-- What stands at a place: the half word. -/
def wordS (m : Ma) (a : Int) : Int := getTo (bsOf m.by') m.by'.length (a - m.base) 2
/-- The error of an instruction at a place. -/
def fetchE (m : Ma) (a : Int) : Int := if hasB m a 2 = true then decE (wordS m a) else 6
def leadsB (op : Int) : Bool := decide (op = 2) || (decide (17 ≤ op) && decide (op ≤ 22))

theorem leads_any (op : Int) (w : World) : Calls Tryd.prog 24 #[.int .i64 op] w fun e w' => e = .returned (.bool (leadsB op)) ∧ w = w' := by
  by_cases h1 : op = 2
  · subst h1
    go_enter Tryd.func24, Tryd.ntmps24
    go_wp2
    go_ret
    exact ⟨rfl, rfl⟩
  · have e1 : (op == 2) = false := by simp [h1]
    have HV : Hid (leadsB op = (decide (17 ≤ op) && decide (op ≤ 22))) := by unfold Hid leadsB; simp [h1]
    by_cases h2 : 17 ≤ op
    · go_enter Tryd.func24, Tryd.ntmps24
      go_wp2
      go_ret
      exact ⟨by rw [HV.out]; simp [h2], rfl⟩
    · have HV2 : Hid (leadsB op = false) := by unfold Hid; rw [HV.out]; simp; omega
      go_enter Tryd.func24, Tryd.ntmps24
      go_wp2
      go_ret
      exact ⟨by rw [HV2.out]; rfl, rfl⟩

/-- A machine's cells. -/
def mC (m : Ma) (ba : Option Addr) (bc : Nat) (sv : Value) (ta : Option Addr) (tc : Nat) : Array Value := #[.int .i64 (m.r 0), .int .i64 (m.r 1), .int .i64 (m.r 2), .int .i64 (m.r 3), .int .i64 (m.r 4), .int .i64 (m.r 5), .int .i64 (m.r 6), .int .i64 (m.r 7), .int .i64 (m.r 8), .int .i64 (m.r 9), .int .i64 (m.r 10), .int .i64 (m.r 11), .int .i64 (m.r 12), .int .i64 (m.r 13), .int .i64 (m.r 14), .int .i64 (m.r 15), .bool m.t, .int .i64 m.pc, .int .i64 m.pr, .int .i64 m.base, .slice ba m.by'.length bc, sv, .slice ta m.told.length tc, .int .i64 m.st]

set_option maxRecDepth 100000 in
theorem has_any (m : Ma) (ba : Option Addr) (bc : Nat) (sv : Value) (ta : Option Addr) (tc : Nat) (a size : Int) (w : World) (hs : size = 2 ∨ size = 4) (hb0 : 0 ≤ m.base) (hb1 : m.base ≤ 1048576) (hl : m.by'.length ≤ 140737488355328) (ha0 : -9223372036854775808 ≤ a) (ha1 : a ≤ 4611686018427387904) :
    Calls Tryd.prog 37 #[.agg (mC m ba bc sv ta tc), .int .i64 a, .int .i64 size] w fun e w' => e = .returned (.bool (hasB m a size)) ∧ Below w.heap.size w w' := by
  have HB : Hid (∀ o, Below w.heap.size w (w.alloc o)) := fun o => oalloc w o
  obtain ⟨X, hX⟩ : ∃ X, X = hasB m a size := ⟨_, rfl⟩
  rw [← hX]
  unfold hasB at hX
  have HX := Lib.hid hX
  clear hX
  unfold mC
  obtain ⟨r, t, pc, pr, base, by', told, st⟩ := m
  simp only at *
  by_cases h1 : base ≤ a
  · have hz : a.tmod size = a % size := Int.tmod_eq_emod_of_nonneg (by omega)
    have hsz : ¬ size = 0 := by omega
    by_cases h2 : a % size = 0
    · have HV : Hid (X = decide (a + size ≤ base + by'.length)) := by unfold Hid; rw [HX.out]; simp [h1, h2]
      go_enter Tryd.func37, Tryd.ntmps37
      go_wp2
      go_ret
      exact ⟨by rw [HV.out]; rfl, HB.out _⟩
    · have h2b : (a % size == 0) = false := by simp [h2]
      have HV : Hid (X = false) := by unfold Hid; rw [HX.out]; simp [h2]
      go_enter Tryd.func37, Tryd.ntmps37
      go_wp2
      go_ret
      exact ⟨by rw [HV.out]; rfl, HB.out _⟩
  · have HV : Hid (X = false) := by unfold Hid; rw [HX.out]; simp [h1]
    go_enter Tryd.func37, Tryd.ntmps37
    go_wp2
    go_ret
    exact ⟨by rw [HV.out]; rfl, HB.out _⟩

theorem hasB_in {m : Ma} {a size : Int} (h : hasB m a size = true) : m.base ≤ a ∧ a % size = 0 ∧ a + size ≤ m.base + m.by'.length := by
  unfold hasB at h
  simpa using h

/-- The bytes lie there. -/
def BRd (w : World) (ba : Option Addr) (l : List UInt8) : Prop := 0 < l.length → ∃ b off, ba = some ⟨b, off, none⟩ ∧ b < w.heap.size ∧ ∀ i, i < l.length → w.cell? ⟨b, off + i, none⟩ = some (.int .u8 (bsOf l i))
theorem BRd.next {w w' : World} {ba : Option Addr} {l : List UInt8} (h : BRd w ba l) (hb : Below w.heap.size w w') : BRd w' ba l := fun h0 => by
  obtain ⟨b, off, e, hl, hc⟩ := h h0
  exact ⟨b, off, e, Nat.lt_of_lt_of_le hl hb.size, fun i hi => (hb.cell (p := ⟨b, off + i, none⟩) hl).trans (hc i hi)⟩
theorem rget (m : Ma) (ba : Option Addr) (bc : Nat) (a size : Int) (w : World) (hR : BRd w ba m.by') (hl : m.by'.length ≤ 140737488355328) (hs0 : 0 ≤ size) (hs1 : size ≤ 4) (h0 : 0 ≤ a) (h1 : a ≤ 4611686018427387904) :
    Calls Tryd.prog 19 #[.slice ba m.by'.length bc, .int .i64 a, .int .i64 size] w fun e w' => e = .returned (.int .i64 (getTo (bsOf m.by') m.by'.length a size.toNat)) ∧ w' = w :=
  rGet_any ba m.by'.length bc (bsOf m.by') a size w (bsOf_byte _) (by unfold maxLen; omega) (fun h => by
    obtain ⟨b, off, e, _, hc⟩ := hR h
    exact ⟨b, off, e, hc⟩) hs0 (by omega) (by omega) (by omega)

end Go.Proofs.YtabepbaldadmgaaDoor

namespace Go.Proofs.YtabepbaldadmgaaDoor
open Go.RowKit Isa

/-- A field of what a half word is decoded to. -/
def dV (x : Int) (i : Nat) : Int := match decV x with
  | .agg a => intOf (a.getD i (.int .i64 0))
  | _ => 0
theorem lay_15 (s : Int) : 0 ≤ layN s ∧ layN s ≤ 15 ∧ 0 ≤ layM s ∧ layM s ≤ 15 := by
  by_cases h : 0 ≤ s ∧ s ≤ 11
  · obtain ⟨k, hk⟩ : ∃ k : Nat, s = k := ⟨s.toNat, by omega⟩
    subst hk
    have h' : ∀ j : Fin 12, 0 ≤ layN (j.val : Int) ∧ layN (j.val : Int) ≤ 15 ∧ 0 ≤ layM (j.val : Int) ∧ layM (j.val : Int) ≤ 15 := by decide
    exact h' ⟨k, by omega⟩
  · obtain ⟨e0, e1, _, _⟩ := lay_out h
    rw [e0, e1]; omega
/-- An instruction that may be. -/
theorem right_bd {op n m imm : Int} (h : wrongI op n m imm = 0) : 0 ≤ n ∧ n ≤ 15 ∧ 0 ≤ m ∧ m ≤ 15 ∧ -10000 ≤ imm ∧ imm ≤ 10000 := by
  have h1 := wrongI_zero h
  have h2 := lay_15 (opShape op)
  have h3 := lay_bd (opShape op)
  omega
theorem dV_all (x : Int) : decV x = .agg #[.int .i64 (dV x 0), .int .i64 (dV x 1), .int .i64 (dV x 2), .int .i64 (dV x 3)] ∧ 0 ≤ dV x 1 ∧ dV x 1 ≤ 15 ∧ 0 ≤ dV x 2 ∧ dV x 2 ≤ 15 ∧ -10000 ≤ dV x 3 ∧ dV x 3 ≤ 10000 := by
  by_cases h : decE x = 0
  · obtain ⟨op, n, m, imm, hd, hw, _⟩ := turn2 h
    have hb := right_bd hw
    have e0 : dV x 0 = op := by unfold dV; rw [hd]; rfl
    have e1 : dV x 1 = n := by unfold dV; rw [hd]; rfl
    have e2 : dV x 2 = m := by unfold dV; rw [hd]; rfl
    have e3 : dV x 3 = imm := by unfold dV; rw [hd]; rfl
    rw [e0, e1, e2, e3]
    exact ⟨hd, hb⟩
  · have hd := turn3 h
    have e0 : dV x 0 = 0 := by unfold dV; rw [hd]; rfl
    have e1 : dV x 1 = 0 := by unfold dV; rw [hd]; rfl
    have e2 : dV x 2 = 0 := by unfold dV; rw [hd]; rfl
    have e3 : dV x 3 = 0 := by unfold dV; rw [hd]; rfl
    rw [e0, e1, e2, e3]
    exact ⟨hd, by omega, by omega, by omega, by omega, by omega, by omega⟩

end Go.Proofs.YtabepbaldadmgaaDoor
