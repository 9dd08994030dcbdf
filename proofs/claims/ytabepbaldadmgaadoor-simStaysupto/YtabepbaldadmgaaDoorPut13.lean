/- Taking a region's operations by hand. The document's own To. -/
import Derived.Test.YtabepbaldadmgaaDoorObCore
import Derived.Test.YtabepbaldadmgaaDoorIsaRef
namespace Go.Proofs.YtabepbaldadmgaaDoor
open Go.RowKit

theorem cell_of_block {w : World} {b i : Nat} {c : Array Value} {t : TypeId} {f : Nat × Nat} {v : Value} (h : w.heap[b]? = some (.cells c t f)) (hv : c[i]? = some v) : w.cell? ⟨b, i, none⟩ = some v := by
  unfold World.cell?
  simp only [h]
  exact hv

theorem take_at {P : Program} {md : Region.Mode} {ops : Array Oper} {Q : Exit → Act → World → Prop} {S : World → Prop} (i d : Nat) {oi : Oper} {v : Value} {fuel : Nat} {listed : Array Bool} {T : Array Value} {D : List Deferred} {w : World} (hi : ops[i]? = some oi) (hd : oi.dst = some d)
    (hs : Region.noSelect ops = true) (hf : Region.free md ops listed i = true) (hr : (Region.ready md ops listed).contains i = true)
    (hQ : ∀ c a w, Q (.panic c) (a.put oi.dst v) w → Q (.panic c) a w) (hw : Region.wanted oi (yielded ops T) = true) (hy : ∀ w, S w → (execOp (Act.eval ⟨T, D⟩) oi).run P w = .ok (.value v) w) (hS : S w)
    (h : wpAnyH P md ops Q S fuel (listed.setIfInBounds i true) ⟨T.setIfInBounds d v, D⟩ w) : wpAnyH P md ops Q S (fuel + 1) listed ⟨T, D⟩ w := by
  refine wpAnyH_take hi hs hf hr hQ (Or.inl ⟨hw, hy⟩) hS ?_
  rw [hd]
  exact h

end Go.Proofs.YtabepbaldadmgaaDoor

namespace Go.Proofs.YtabepbaldadmgaaDoor
open Go.RowKit Isa

/-- Where an instruction leads. -/
def toI (op imm at' : Int) : Int :=
  if infoShape op = 4 ∨ infoShape op = 5 ∨ infoShape op = 7 then at' + 2 * imm + 4
  else if infoShape op = 8 then at' - at' % 4 + 4 + 4 * imm else 0
def toB (op : Int) : Bool := decide (infoShape op = 4 ∨ infoShape op = 5 ∨ infoShape op = 7 ∨ infoShape op = 8)

theorem row_field (w : World) (a c : ByteArray) (b : Int) : (Instr.field 65 (.agg #[.string a, .int .i64 b, .string c]) 1).run Tryd.prog w = .ok (.int .i64 b) w := by
  kernel_rfl

set_option maxHeartbeats 4000000 in
theorem rto_any (op n m imm at' : Int) (w : World) (h0 : 0 ≤ at') (h1 : at' ≤ 1000000000000) (h2 : -10000 ≤ imm) (h3 : imm ≤ 10000) :
    Calls Tryd.prog 26 #[.agg #[.int .i64 op, .int .i64 n, .int .i64 m, .int .i64 imm], .int .i64 at'] w fun e w' => e = .returned (.tuple #[.int .i64 (toI op imm at'), .bool (toB op)]) ∧ Below w.heap.size w w' := by
  have HR := Lib.hid rows_any
  obtain ⟨V, hV⟩ : ∃ V, V = w.alloc (.cells #[.int .i64 op, .int .i64 n, .int .i64 m, .int .i64 imm] 45) := ⟨_, rfl⟩
  have HB : Hid (V.heap[w.heap.size]? = some (.cells #[.int .i64 op, .int .i64 n, .int .i64 m, .int .i64 imm] 45 (0, 0))) := by unfold Hid; rw [hV]; unfold World.alloc; simp only [Array.getElem?_push_size]
  have HBel : Hid (Below w.heap.size w V) := by unfold Hid; rw [hV]; exact oalloc _ _
  have HV := Lib.hid hV
  have HTI := Lib.hid (rfl : toI op imm at' = toI op imm at')
  obtain ⟨ti, hti⟩ : ∃ x, x = toI op imm at' := ⟨_, rfl⟩
  obtain ⟨tb, htb⟩ : ∃ x, x = toB op := ⟨_, rfl⟩
  rw [← hti, ← htb]
  have HT := Lib.hid (And.intro hti htb)
  clear hV hti htb HTI
  go_enter Tryd.func26, Tryd.ntmps26
  go_wp2_with fail
  rw [← HV.out]
  have hbS := HB.out
  refine wp_region_noPanic ?_
  refine wp_region_held_drew (S := fun X => X.heap[w.heap.size]? = some (.cells #[.int .i64 op, .int .i64 n, .int .i64 m, .int .i64 imm] 45 (0, 0))) (by kernel_rfl) hbS (fun hHeld => ?_)
  obtain ⟨V0, hV0⟩ : ∃ X, X = V.drew := ⟨_, rfl⟩
  have HB0 : Hid (Below w.heap.size w V0) := by unfold Hid; rw [hV0]; exact HBel.out.trans (Below.refl _ _).drew
  have hsz0 : w.heap.size < V0.heap.size := by rw [hV0]; exact (Array.getElem?_eq_some_iff.1 hbS).1
  rw [← hV0] at hHeld ⊢
  clear hV0 hbS HB HBel HV
  refine take_at 1 7 (v := ?_) rfl rfl (by kernel_rfl) (by kernel_rfl) (by kernel_rfl) (fun _ _ _ h => h) rfl ?_ hHeld ?_
  rotate_left
  · intro w hSw
    go_simp
    try with_reducible rfl
  simp only [List.setIfInBounds_toArray, List.set_cons_zero, List.set_cons_succ]
  refine take_at 2 8 (v := ?_) rfl rfl (by kernel_rfl) (by kernel_rfl) (by kernel_rfl) (fun _ _ _ h => h) rfl ?_ hHeld ?_
  rotate_left
  · intro w hSw
    have x0 := cell_of_block (i := 0) hSw rfl
    go_simp
    try with_reducible rfl
  simp only [List.setIfInBounds_toArray, List.set_cons_zero, List.set_cons_succ]
  refine wpAnyH_ready (rs := [0]) (by kernel_rfl) (by simp) ?_
  refine AllReadyH.cons rfl (fun K hK => ?_) AllReadyH.nil
  go_simp
  refine (HR.out _).mono ?_
  rintro e W1 ⟨rfl, hW1⟩
  have hb1 : Below V0.heap.size V0 W1 := by rw [hW1]; exact oalloc _ _
  have HB1 := Lib.hid (HB0.out.trans (hb1.mono HB0.out.size))
  have hmp : W1.heap[V0.heap.size]? = some (mapOf 27) := by rw [hW1]; unfold World.alloc; simp only [Array.getElem?_push_size]
  have hH1 := hHeld
  rw [← hb1.block _ hsz0] at hH1
  have HLK := Lib.hid (run_look_plain W1 V0.heap.size op hmp)
  generalize V0.heap.size = g at *
  clear hW1 hb1 hmp HB0
  go_simp
  refine hK.out _ _ hH1 (fun hHeld => ?_)
  clear hK K hH1
  refine wpAnyH_ready (rs := [3]) (by kernel_rfl) (by simp) ?_
  refine AllReadyH.cons rfl (fun K hK => ?_) AllReadyH.nil
  have hlk := HLK.out
  go_simp
  refine hK.out _ _ hHeld (fun hHeld => ?_)
  clear hK K hlk HLK
  refine take_at 4 10 (v := .int .i64 (infoShape op)) rfl rfl (by kernel_rfl) (by kernel_rfl) (by kernel_rfl) (fun _ _ _ h => h) rfl ?_ hHeld ?_
  · intro w hSw
    have hfd := row_field w (infoName op) (refTxt op) (infoShape op)
    go_simp
    try with_reducible rfl
  simp only [List.setIfInBounds_toArray, List.set_cons_zero, List.set_cons_succ]
  refine wpAnyH_done (by kernel_rfl) ?_ _
  refine NoPanic.normal ?_
  have x0 : W1.cell? ⟨w.heap.size, 3, none⟩ = some (.int .i64 imm) := cell_of_block (i := 3) hHeld rfl
  clear hHeld
  obtain ⟨ht1, ht2⟩ := HT.out
  unfold toI at ht1
  unfold toB at ht2
  clear HT
  generalize infoShape op = sh at *
  by_cases h4 : sh = 4
  · subst h4
    have e1 : ti = at' + 2 * imm + 4 := by rw [ht1, if_pos (by omega)]
    have e2 : tb = true := by rw [ht2]; rfl
    clear ht1 ht2
    subst e1 e2
    go_wp2
    go_ret2
    exact ⟨rfl, HB1.out⟩
  · by_cases h5 : sh = 5
    · subst h5
      have e1 : ti = at' + 2 * imm + 4 := by rw [ht1, if_pos (by omega)]
      have e2 : tb = true := by rw [ht2]; rfl
      clear ht1 ht2
      subst e1 e2
      go_wp2
      go_ret2
      exact ⟨rfl, HB1.out⟩
    · by_cases h7 : sh = 7
      · subst h7
        have e1 : ti = at' + 2 * imm + 4 := by rw [ht1, if_pos (by omega)]
        have e2 : tb = true := by rw [ht2]; rfl
        clear ht1 ht2
        subst e1 e2
        go_wp2
        go_ret2
        exact ⟨rfl, HB1.out⟩
      · by_cases h8 : sh = 8
        · subst h8
          have e1 : ti = at' - at' % 4 + 4 + 4 * imm := by rw [ht1, if_neg (by omega), if_pos rfl]
          have e2 : tb = true := by rw [ht2]; rfl
          have hm : (at' % 4 + 4) % 4 = at' % 4 := by omega
          have hm0 : 0 ≤ at' % 4 := by omega
          have hm1 : at' % 4 < 4 := by omega
          clear ht1 ht2
          go_wp2
          go_ret2
          subst e1 e2
          exact ⟨rfl, HB1.out⟩
        · have e1 : ti = 0 := by rw [ht1, if_neg (by omega), if_neg h8]
          have e2 : tb = false := by rw [ht2]; simp; omega
          clear ht1 ht2
          subst e1 e2
          go_wp2
          go_ret2
          exact ⟨rfl, HB1.out⟩

end Go.Proofs.YtabepbaldadmgaaDoor
