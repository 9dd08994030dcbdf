/- Taking a region's operations by hand. The document's own To. Machines: what they are, and how they lie in memory. The fields of what a half word is decoded to. -/
import Derived.Test.YtabepbaldadmgaaDoorObCore
import Derived.Test.YtabepbaldadmgaaDoorPut2
import Derived.Test.YtabepbaldadmgaaDoorPut5
import Derived.Test.YtabepbaldadmgaaDoorIsaRefB
import Derived.Test.YtabepbaldadmgaaDoorIsaTurn
namespace Go.Proofs.YtabepbaldadmgaaDoor
open Go.RowKit

theorem cell_of_block {w : World} {b i : Nat} {c : Array Value} {t : TypeId} {f : Nat × Nat} {v : Value} (h : w.heap[b]? = some (.cells c t f)) (hv : c[i]? = some v) : w.cell? ⟨b, i, none⟩ = some v := by
  unfold World.cell?
  simp only [h]
  exact hv

theorem take_at {P : Program} {md : Region.Mode} {ops : Array Oper} {Q : Exit → Act → World → Prop} {S : World → Prop} (i d : Nat) {oi : Oper} {v : Value} {fuel : Nat} {listed : Array Bool} {T : Array Value} {D : List Deferred} {w : World} (hi : ops[i]? = some oi) (hd : oi.dst = some d)
    (hs : Region.noSelect ops = true) (hf : Region.free md ops listed i = true) (hr : (Region.ready md ops listed).contains i = true)
    (hQ : ∀ c a w, Q (.panic c) (a.put oi.dst v) w → Q (.panic c) a w) (hw : Region.wanted oi (yielded ops T) = true) (hy : ∀ w, S w → (execOp (Act.eval ⟨T, D⟩) oi).run P w = .ok (.value v) w) (hS : S w)
    (h : wpAnyH P md ops Q S fuel (listed.setIfInBounds i true) ⟨T.setIfInBounds d v, D⟩ w) : wpAnyH P md ops Q S (fuel + 1) listed ⟨T, D⟩ w := by
  refine wpAnyH_take hi hs hf hr hQ (Or.inl ⟨hw, hy⟩) hS ?_
  rw [hd]
  exact h

end Go.Proofs.YtabepbaldadmgaaDoor

namespace Go.Proofs.YtabepbaldadmgaaDoor
open Go.RowKit Isa

/-- Where an instruction leads. -/
def toI (op imm at' : Int) : Int :=
  if infoShape op = 4 ∨ infoShape op = 5 ∨ infoShape op = 7 then at' + 2 * imm + 4
  else if infoShape op = 8 then at' - at' % 4 + 4 + 4 * imm else 0
def toB (op : Int) : Bool := decide (infoShape op = 4 ∨ infoShape op = 5 ∨ infoShape op = 7 ∨ infoShape op = 8)

theorem row_field (w : World) (a c : ByteArray) (b : Int) : (Instr.field 65 (.agg #[.string a, .int .i64 b, .string c]) 1).run Tryd.prog w = .ok (.int .i64 b) w := by
  kernel_rfl

set_option maxHeartbeats 4000000 in
theorem rto_any (op n m imm at' : Int) (w : World) (h0 : 0 ≤ at') (h1 : at' ≤ 1000000000000) (h2 : -10000 ≤ imm) (h3 : imm ≤ 10000) :
    Calls Tryd.prog 26 #[.agg #[.int .i64 op, .int .i64 n, .int .i64 m, .int .i64 imm], .int .i64 at'] w fun e w' => e = .returned (.tuple #[.int .i64 (toI op imm at'), .bool (toB op)]) ∧ Below w.heap.size w w' := by
  have HR := Lib.hid rows_any
  obtain ⟨V, hV⟩ : ∃ V, V = w.alloc (.cells #[.int .i64 op, .int .i64 n, .int .i64 m, .int .i64 imm] 45) := ⟨_, rfl⟩
  have HB : Hid (V.heap[w.heap.size]? = some (.cells #[.int .i64 op, .int .i64 n, .int .i64 m, .int .i64 imm] 45 (0, 0))) := by unfold Hid; rw [hV]; unfold World.alloc; simp only [Array.getElem?_push_size]
  have HBel : Hid (Below w.heap.size w V) := by unfold Hid; rw [hV]; exact oalloc _ _
  have HV := Lib.hid hV
  have HTI := Lib.hid (rfl : toI op imm at' = toI op imm at')
  obtain ⟨ti, hti⟩ : ∃ x, x = toI op imm at' := ⟨_, rfl⟩
  obtain ⟨tb, htb⟩ : ∃ x, x = toB op := ⟨_, rfl⟩
  rw [← hti, ← htb]
  have HT := Lib.hid (And.intro hti htb)
  clear hV hti htb HTI
  go_enter Tryd.func26, Tryd.ntmps26
  go_wp2_with fail
  rw [← HV.out]
  have hbS := HB.out
  refine wp_region_noPanic ?_
  refine wp_region_held_drew (S := fun X => X.heap[w.heap.size]? = some (.cells #[.int .i64 op, .int .i64 n, .int .i64 m, .int .i64 imm] 45 (0, 0))) (by kernel_rfl) hbS (fun hHeld => ?_)
  obtain ⟨V0, hV0⟩ : ∃ X, X = V.drew := ⟨_, rfl⟩
  have HB0 : Hid (Below w.heap.size w V0) := by unfold Hid; rw [hV0]; exact HBel.out.trans (Below.refl _ _).drew
  have hsz0 : w.heap.size < V0.heap.size := by rw [hV0]; exact (Array.getElem?_eq_some_iff.1 hbS).1
  rw [← hV0] at hHeld ⊢
  clear hV0 hbS HB HBel HV
  refine take_at 1 7 (v := ?_) rfl rfl (by kernel_rfl) (by kernel_rfl) (by kernel_rfl) (fun _ _ _ h => h) rfl ?_ hHeld ?_
  rotate_left
  · intro w hSw
    go_simp
    try with_reducible rfl
  simp only [List.setIfInBounds_toArray, List.set_cons_zero, List.set_cons_succ]
  refine take_at 2 8 (v := ?_) rfl rfl (by kernel_rfl) (by kernel_rfl) (by kernel_rfl) (fun _ _ _ h => h) rfl ?_ hHeld ?_
  rotate_left
  · intro w hSw
    have x0 := cell_of_block (i := 0) hSw rfl
    go_simp
    try with_reducible rfl
  simp only [List.setIfInBounds_toArray, List.set_cons_zero, List.set_cons_succ]
  refine wpAnyH_ready (rs := [0]) (by kernel_rfl) (by simp) ?_
  refine AllReadyH.cons rfl (fun K hK => ?_) AllReadyH.nil
  go_simp
  refine (HR.out _).mono ?_
  rintro e W1 ⟨rfl, hW1⟩
  have hb1 : Below V0.heap.size V0 W1 := by rw [hW1]; exact oalloc _ _
  have HB1 := Lib.hid (HB0.out.trans (hb1.mono HB0.out.size))
  have hmp : W1.heap[V0.heap.size]? = some (mapOf 27) := by rw [hW1]; unfold World.alloc; simp only [Array.getElem?_push_size]
  have hH1 := hHeld
  rw [← hb1.block _ hsz0] at hH1
  have HLK := Lib.hid (run_look_plain W1 V0.heap.size op hmp)
  generalize V0.heap.size = g at *
  clear hW1 hb1 hmp HB0
  go_simp
  refine hK.out _ _ hH1 (fun hHeld => ?_)
  clear hK K hH1
  refine wpAnyH_ready (rs := [3]) (by kernel_rfl) (by simp) ?_
  refine AllReadyH.cons rfl (fun K hK => ?_) AllReadyH.nil
  have hlk := HLK.out
  go_simp
  refine hK.out _ _ hHeld (fun hHeld => ?_)
  clear hK K hlk HLK
  refine take_at 4 10 (v := .int .i64 (infoShape op)) rfl rfl (by kernel_rfl) (by kernel_rfl) (by kernel_rfl) (fun _ _ _ h => h) rfl ?_ hHeld ?_
  · intro w hSw
    have hfd := row_field w (infoName op) (refTxt op) (infoShape op)
    go_simp
    try with_reducible rfl
  simp only [List.setIfInBounds_toArray, List.set_cons_zero, List.set_cons_succ]
  refine wpAnyH_done (by kernel_rfl) ?_ _
  refine NoPanic.normal ?_
  have x0 : W1.cell? ⟨w.heap.size, 3, none⟩ = some (.int .i64 imm) := cell_of_block (i := 3) hHeld rfl
  clear hHeld
  obtain ⟨ht1, ht2⟩ := HT.out
  unfold toI at ht1
  unfold toB at ht2
  clear HT
  generalize infoShape op = sh at *
  by_cases h4 : sh = 4
  · subst h4
    have e1 : ti = at' + 2 * imm + 4 := by rw [ht1, if_pos (by omega)]
    have e2 : tb = true := by rw [ht2]; rfl
    clear ht1 ht2
    subst e1 e2
    go_wp2
    go_ret2
    exact ⟨rfl, HB1.out⟩
  · by_cases h5 : sh = 5
    · subst h5
      have e1 : ti = at' + 2 * imm + 4 := by rw [ht1, if_pos (by omega)]
      have e2 : tb = true := by rw [ht2]; rfl
      clear ht1 ht2
      subst e1 e2
      go_wp2
      go_ret2
      exact ⟨rfl, HB1.out⟩
    · by_cases h7 : sh = 7
      · subst h7
        have e1 : ti = at' + 2 * imm + 4 := by rw [ht1, if_pos (by omega)]
        have e2 : tb = true := by rw [ht2]; rfl
        clear ht1 ht2
        subst e1 e2
        go_wp2
        go_ret2
        exact ⟨rfl, HB1.out⟩
      · by_cases h8 : sh = 8
        · subst h8
          have e1 : ti = at' - at' % 4 + 4 + 4 * imm := by rw [ht1, if_neg (by omega), if_pos rfl]
          have e2 : tb = true := by rw [ht2]; rfl
          have hm : (at' % 4 + 4) % 4 = at' % 4 := by omega
          have hm0 : 0 ≤ at' % 4 := by omega
          have hm1 : at' % 4 < 4 := by omega
          clear ht1 ht2
          go_wp2
          go_ret2
          subst e1 e2
          exact ⟨rfl, HB1.out⟩
        · have e1 : ti = 0 := by rw [ht1, if_neg (by omega), if_neg h8]
          have e2 : tb = false := by rw [ht2]; simp; omega
          clear ht1 ht2
          subst e1 e2
          go_wp2
          go_ret2
          exact ⟨rfl, HB1.out⟩

end Go.Proofs.YtabepbaldadmgaaDoor

namespace Go.Proofs.YtabepbaldadmgaaDoor
open Go.RowKit Isa

/-- A machine. -/
structure Ma where
  r : Nat → Int
  t : Bool
  pc : Int
  pr : Int
  base : Int
  by' : List UInt8
  told : List Int
  st : Int
def bsOf (l : List UInt8) (i : Nat) : Int := ((l.getD i 0).toNat : Int)
theorem bsOf_byte (l : List UInt8) : IsByte (bsOf l) := fun i => by
  have := (l.getD i 0).toNat_lt
  unfold bsOf; omega

/-- So many bytes are there. -/
def hasB (m : Ma) (a size : Int) : Bool := decide (m.base ≤ a) && (decide (a % size = 0) && decide (a + size ≤ m.base + m.by'.length))
/-- What stands at a place: the half word. -/
def wordS (m : Ma) (a : Int) : Int := getTo (bsOf m.by') m.by'.length (a - m.base) 2
/-- The error of an instruction at a place. -/
def fetchE (m : Ma) (a : Int) : Int := if hasB m a 2 = true then decE (wordS m a) else 6
def leadsB (op : Int) : Bool := decide (op = 2) || (decide (17 ≤ op) && decide (op ≤ 22))

theorem leads_any (op : Int) (w : World) : Calls Tryd.prog 24 #[.int .i64 op] w fun e w' => e = .returned (.bool (leadsB op)) ∧ w = w' := by
  by_cases h1 : op = 2
  · subst h1
    go_enter Tryd.func24, Tryd.ntmps24
    go_wp2
    go_ret
    exact ⟨rfl, rfl⟩
  · have e1 : (op == 2) = false := by simp [h1]
    have HV : Hid (leadsB op = (decide (17 ≤ op) && decide (op ≤ 22))) := by unfold Hid leadsB; simp [h1]
    by_cases h2 : 17 ≤ op
    · go_enter Tryd.func24, Tryd.ntmps24
      go_wp2
      go_ret
      exact ⟨by rw [HV.out]; simp [h2], rfl⟩
    · have HV2 : Hid (leadsB op = false) := by unfold Hid; rw [HV.out]; simp; omega
      go_enter Tryd.func24, Tryd.ntmps24
      go_wp2
      go_ret
      exact ⟨by rw [HV2.out]; rfl, rfl⟩

/-- A machine's cells. -/
def mC (m : Ma) (ba : Option Addr) (bc : Nat) (sv : Value) (ta : Option Addr) (tc : Nat) : Array Value := #[.int .i64 (m.r 0), .int .i64 (m.r 1), .int .i64 (m.r 2), .int .i64 (m.r 3), .int .i64 (m.r 4), .int .i64 (m.r 5), .int .i64 (m.r 6), .int .i64 (m.r 7), .int .i64 (m.r 8), .int .i64 (m.r 9), .int .i64 (m.r 10), .int .i64 (m.r 11), .int .i64 (m.r 12), .int .i64 (m.r 13), .int .i64 (m.r 14), .int .i64 (m.r 15), .bool m.t, .int .i64 m.pc, .int .i64 m.pr, .int .i64 m.base, .slice ba m.by'.length bc, sv, .slice ta m.told.length tc, .int .i64 m.st]

set_option maxRecDepth 100000 in
theorem has_any (m : Ma) (ba : Option Addr) (bc : Nat) (sv : Value) (ta : Option Addr) (tc : Nat) (a size : Int) (w : World) (hs : size = 2 ∨ size = 4) (hb0 : 0 ≤ m.base) (hb1 : m.base ≤ 1048576) (hl : m.by'.length ≤ 140737488355328) (ha0 : -9223372036854775808 ≤ a) (ha1 : a ≤ 4611686018427387904) :
    Calls Tryd.prog 37 #[.agg (mC m ba bc sv ta tc), .int .i64 a, .int .i64 size] w fun e w' => e = .returned (.bool (hasB m a size)) ∧ Below w.heap.size w w' := by
  have HB : Hid (∀ o, Below w.heap.size w (w.alloc o)) := fun o => oalloc w o
  obtain ⟨X, hX⟩ : ∃ X, X = hasB m a size := ⟨_, rfl⟩
  rw [← hX]
  unfold hasB at hX
  have HX := Lib.hid hX
  clear hX
  unfold mC
  obtain ⟨r, t, pc, pr, base, by', told, st⟩ := m
  simp only at *
  by_cases h1 : base ≤ a
  · have hz : a.tmod size = a % size := Int.tmod_eq_emod_of_nonneg (by omega)
    have hsz : ¬ size = 0 := by omega
    by_cases h2 : a % size = 0
    · have HV : Hid (X = decide (a + size ≤ base + by'.length)) := by unfold Hid; rw [HX.out]; simp [h1, h2]
      go_enter Tryd.func37, Tryd.ntmps37
      go_wp2
      go_ret
      exact ⟨by rw [HV.out]; rfl, HB.out _⟩
    · have h2b : (a % size == 0) = false := by simp [h2]
      have HV : Hid (X = false) := by unfold Hid; rw [HX.out]; simp [h2]
      go_enter Tryd.func37, Tryd.ntmps37
      go_wp2
      go_ret
      exact ⟨by rw [HV.out]; rfl, HB.out _⟩
  · have HV : Hid (X = false) := by unfold Hid; rw [HX.out]; simp [h1]
    go_enter Tryd.func37, Tryd.ntmps37
    go_wp2
    go_ret
    exact ⟨by rw [HV.out]; rfl, HB.out _⟩

theorem hasB_in {m : Ma} {a size : Int} (h : hasB m a size = true) : m.base ≤ a ∧ a % size = 0 ∧ a + size ≤ m.base + m.by'.length := by
  unfold hasB at h
  simpa using h

/-- The bytes lie there. -/
def BRd (w : World) (ba : Option Addr) (l : List UInt8) : Prop := 0 < l.length → ∃ b off, ba = some ⟨b, off, none⟩ ∧ b < w.heap.size ∧ ∀ i, i < l.length → w.cell? ⟨b, off + i, none⟩ = some (.int .u8 (bsOf l i))
theorem BRd.next {w w' : World} {ba : Option Addr} {l : List UInt8} (h : BRd w ba l) (hb : Below w.heap.size w w') : BRd w' ba l := fun h0 => by
  obtain ⟨b, off, e, hl, hc⟩ := h h0
  exact ⟨b, off, e, Nat.lt_of_lt_of_le hl hb.size, fun i hi => (hb.cell (p := ⟨b, off + i, none⟩) hl).trans (hc i hi)⟩
theorem rget (m : Ma) (ba : Option Addr) (bc : Nat) (a size : Int) (w : World) (hR : BRd w ba m.by') (hl : m.by'.length ≤ 140737488355328) (hs0 : 0 ≤ size) (hs1 : size ≤ 4) (h0 : 0 ≤ a) (h1 : a ≤ 4611686018427387904) :
    Calls Tryd.prog 19 #[.slice ba m.by'.length bc, .int .i64 a, .int .i64 size] w fun e w' => e = .returned (.int .i64 (getTo (bsOf m.by') m.by'.length a size.toNat)) ∧ w' = w :=
  rGet_any ba m.by'.length bc (bsOf m.by') a size w (bsOf_byte _) (by unfold maxLen; omega) (fun h => by
    obtain ⟨b, off, e, _, hc⟩ := hR h
    exact ⟨b, off, e, hc⟩) hs0 (by omega) (by omega) (by omega)

end Go.Proofs.YtabepbaldadmgaaDoor

namespace Go.Proofs.YtabepbaldadmgaaDoor
open Go.RowKit Isa

/-- A field of what a half word is decoded to. -/
def dV (x : Int) (i : Nat) : Int := match decV x with
  | .agg a => intOf (a.getD i (.int .i64 0))
  | _ => 0
theorem lay_15 (s : Int) : 0 ≤ layN s ∧ layN s ≤ 15 ∧ 0 ≤ layM s ∧ layM s ≤ 15 := by
  by_cases h : 0 ≤ s ∧ s ≤ 11
  · obtain ⟨k, hk⟩ : ∃ k : Nat, s = k := ⟨s.toNat, by omega⟩
    subst hk
    have h' : ∀ j : Fin 12, 0 ≤ layN (j.val : Int) ∧ layN (j.val : Int) ≤ 15 ∧ 0 ≤ layM (j.val : Int) ∧ layM (j.val : Int) ≤ 15 := by decide
    exact h' ⟨k, by omega⟩
  · obtain ⟨e0, e1, _, _⟩ := lay_out h
    rw [e0, e1]; omega
/-- An instruction that may be. -/
theorem right_bd {op n m imm : Int} (h : wrongI op n m imm = 0) : 0 ≤ n ∧ n ≤ 15 ∧ 0 ≤ m ∧ m ≤ 15 ∧ -10000 ≤ imm ∧ imm ≤ 10000 := by
  have h1 := wrongI_zero h
  have h2 := lay_15 (opShape op)
  have h3 := lay_bd (opShape op)
  omega
theorem dV_all (x : Int) : decV x = .agg #[.int .i64 (dV x 0), .int .i64 (dV x 1), .int .i64 (dV x 2), .int .i64 (dV x 3)] ∧ 0 ≤ dV x 1 ∧ dV x 1 ≤ 15 ∧ 0 ≤ dV x 2 ∧ dV x 2 ≤ 15 ∧ -10000 ≤ dV x 3 ∧ dV x 3 ≤ 10000 := by
  by_cases h : decE x = 0
  · obtain ⟨op, n, m, imm, hd, hw, _⟩ := turn2 h
    have hb := right_bd hw
    have e0 : dV x 0 = op := by unfold dV; rw [hd]; rfl
    have e1 : dV x 1 = n := by unfold dV; rw [hd]; rfl
    have e2 : dV x 2 = m := by unfold dV; rw [hd]; rfl
    have e3 : dV x 3 = imm := by unfold dV; rw [hd]; rfl
    rw [e0, e1, e2, e3]
    exact ⟨hd, hb⟩
  · have hd := turn3 h
    have e0 : dV x 0 = 0 := by unfold dV; rw [hd]; rfl
    have e1 : dV x 1 = 0 := by unfold dV; rw [hd]; rfl
    have e2 : dV x 2 = 0 := by unfold dV; rw [hd]; rfl
    have e3 : dV x 3 = 0 := by unfold dV; rw [hd]; rfl
    rw [e0, e1, e2, e3]
    exact ⟨hd, by omega, by omega, by omega, by omega, by omega, by omega⟩

end Go.Proofs.YtabepbaldadmgaaDoor
