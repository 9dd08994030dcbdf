/- The document's own SameImage and SameMachine, of what is the same. -/
import Derived.Test.YtabepbaldadmgaaDoorSnS
import Derived.Lib.ConvBytes
namespace Go.Proofs.YtabepbaldadmgaaDoor
open Go.RowKit

/-- The slice reads as these names. -/
def SySrc (w : World) (v : Value) (l : List Sy) : Prop :=
  ∃ ad cap, v = .slice ad l.length cap ∧ l.length ≤ maxLen ∧ (0 < l.length → ∃ b o, ad = some ⟨b, o, none⟩ ∧ b < w.heap.size ∧ ∀ i (h : i < l.length),
    w.cell? ⟨b, o + i * 2, none⟩ = some (.string ⟨l[i].name.toArray⟩) ∧ w.cell? ⟨b, o + i * 2 + 1, none⟩ = some (.int .i64 l[i].pos))
theorem SrcOf.sy {w : World} {ad : Option Addr} {cap : Nat} {l : List Sy} (h : SrcOf w ad l.length (scells l)) (hm : l.length ≤ maxLen) : SySrc w (.slice ad l.length cap) l := by
  refine ⟨ad, cap, rfl, hm, fun h0 => ?_⟩
  obtain ⟨b, o, rfl, hl, hc⟩ := h h0
  exact ⟨b, o, rfl, hl, fun i hi => ⟨hc _ _ (scells_at l i hi).1, hc _ _ (scells_at l i hi).2⟩⟩
theorem BRd.ob {w : World} {ba : Option Addr} {bc : Nat} {l : List UInt8} (h : BRd w ba l) (hm : l.length ≤ maxLen) : OBytes w (.slice ba l.length bc) l := by
  refine ⟨ba, bc, rfl, hm, fun h0 => ?_⟩
  obtain ⟨b, off, e, hl, hc⟩ := h h0
  exact ⟨b, off, e, hl, fun i hi => by rw [hc i hi]; simp [bsOf, hi, List.getD]⟩

theorem oconv {w : World} {v : Value} {bs : List UInt8} (h : OBytes w v bs) : (convert 23 9 v).run Tryd.prog w = .ok (.string ⟨bs.toArray⟩) w := by
  obtain ⟨ad, cap, rfl, _, hc⟩ := h
  by_cases h0 : 0 < bs.length
  · obtain ⟨b, o, rfl, _, hcell⟩ := hc h0
    have hrun := run_convert_bytes_arg (P := Tryd.prog) w 23 5 Tryd.underlying23 Tryd.underlying5 b o bs.length cap (bs.map fun c => (c.toNat : Int)) (by simp) (fun i hi => by rw [hcell i hi]; simp [List.getD, hi]) 9 Tryd.underlying9
    have e : strOfNums (bs.map fun c => (c.toNat : Int)) = ⟨bs.toArray⟩ := by
      have hm : (bs.map fun c => (c.toNat : Int)).map (fun n : Int => UInt8.ofNat n.toNat) = bs := by
        rw [List.map_map]
        have : (bs.map ((fun n : Int => UInt8.ofNat n.toNat) ∘ fun c => (c.toNat : Int))) = bs.map id := List.map_congr_left (fun c _ => by simp)
        rw [this, List.map_id]
      unfold strOfNums
      rw [hm]
    rw [e] at hrun
    exact hrun
  · have hb : bs = [] := List.eq_nil_of_length_eq_zero (by omega)
    subst hb
    cases ad with
    | none => exact run_convert_bytes_nil (P := Tryd.prog) w 23 5 Tryd.underlying23 Tryd.underlying5 0 cap 9 Tryd.underlying9
    | some a =>
      show (convert 23 9 (.slice (some a) 0 cap)).run Tryd.prog w = _
      rw [run_convert_bytes_string w 23 9 5 _ 0 cap Tryd.underlying23 Tryd.underlying5 Tryd.underlying9]
      have hl : (loadCells a 0).run Tryd.prog w = .ok (([] : List Int).map (Value.int .u8)).toArray w := by
        have := run_loadCells_list (P := Tryd.prog) w a ([] : List Value) (fun j v hj => by simp at hj)
        simpa using this
      rw [run_bytesToString w a 0 cap [] hl]
      rfl

/-- The two boxes, and all that was. -/
structure SI (w wr : World) (a b : Array Value) : Prop where
  bel : Below w.heap.size w wr
  b0 : wr.heap[w.heap.size]? = some (.cells a 26 (0, 0))
  b1 : wr.heap[w.heap.size + 1]? = some (.cells b 26 (0, 0))
theorem SI.draws {w wr : World} {a b : Array Value} (h : SI w wr a b) (n : Nat) : SI w (wr.drewN n) a b := by
  have hb : Below wr.heap.size wr (wr.drewN n) := Go.Joins.below_draws _ _ _
  exact ⟨h.bel.trans (hb.mono h.bel.size), by rw [hb.block _ (Array.getElem?_eq_some_iff.1 h.b0).1]; exact h.b0, by rw [hb.block _ (Array.getElem?_eq_some_iff.1 h.b1).1]; exact h.b1⟩

set_option maxHeartbeats 8000000 in
theorem simg_any (B : Int) (b : List UInt8) (s : List Sy) (cv sv cv' sv' : Value) (w : World) (hC : OBytes w cv b) (hS : SySrc w sv s) (hC' : OBytes w cv' b) (hS' : SySrc w sv' s) :
    Calls Tryd.prog 13 #[.agg #[.int .i64 B, cv, sv], .agg #[.int .i64 B, cv', sv']] w fun e w' => e = .returned (.bool true) ∧ Below w.heap.size w w' := by
  have hcv : ∀ p q : Obj, (convert 23 9 cv).run Tryd.prog ((w.alloc p).alloc q) = .ok (.string ⟨b.toArray⟩) ((w.alloc p).alloc q) := fun p q => oconv (hC.below ((oalloc w p).alloc (by simp) q) (Nat.le_refl _))
  have hcv' : ∀ p q : Obj, (convert 23 9 cv').run Tryd.prog ((w.alloc p).alloc q) = .ok (.string ⟨b.toArray⟩) ((w.alloc p).alloc q) := fun p q => oconv (hC'.below ((oalloc w p).alloc (by simp) q) (Nat.le_refl _))
  obtain ⟨cad, ccap, rfl, hcm, z1⟩ := hC
  obtain ⟨sad, scap, rfl, hsm, hsc⟩ := hS
  obtain ⟨cad', ccap', rfl, hcm', z1'⟩ := hC'
  obtain ⟨sad', scap', rfl, hsm', hsc'⟩ := hS'
  have HSC := Lib.hid hsc
  have HSC' := Lib.hid hsc'
  have hsl : s.length ≤ 9223372036854775807 := hsm
  clear z1 z1' hcm hcm' hsc hsc' hsm hsm'
  have HSK : Hid (SI w ((w.alloc (.cells #[.int .i64 B, .slice cad b.length ccap, .slice sad s.length scap] 26)).alloc (.cells #[.int .i64 B, .slice cad' b.length ccap', .slice sad' s.length scap'] 26)) #[.int .i64 B, .slice cad b.length ccap, .slice sad s.length scap] #[.int .i64 B, .slice cad' b.length ccap', .slice sad' s.length scap']) := by
    refine ⟨(oalloc w _).alloc (by simp) _, ?_, ?_⟩
    · rw [Below.heap_alloc _ _ _ (by simp)]; exact heap_alloc_new w _
    · have := heap_alloc_new (w.alloc (.cells #[.int .i64 B, .slice cad b.length ccap, .slice sad s.length scap] 26)) (.cells #[.int .i64 B, .slice cad' b.length ccap', .slice sad' s.length scap'] 26)
      simpa using this
  go_enter Tryd.func13, Tryd.ntmps13
  go_wp2
  clear hcv hcv'
  go_loopw [32] (fun i wr => ∃ k : Nat, k ≤ s.length ∧ i = .int .i64 k ∧ Hid (SI w wr #[.int .i64 B, .slice cad b.length ccap, .slice sad s.length scap] #[.int .i64 B, .slice cad' b.length ccap', .slice sad' s.length scap'])) (fun i _ => s.length - (intOf i).toNat)
  case atStart => exact ⟨0, Nat.zero_le _, rfl, HSK⟩
  case round =>
    obtain ⟨k, hk, rfl, HK⟩ := hrel
    clear HSK
    by_cases hlt : k < s.length
    · have hk1 : (k : Int) < s.length := by omega
      obtain ⟨p, f, rfl, hbl, hcell⟩ := HSC.out (by omega)
      obtain ⟨p', f', rfl, hbl', hcell'⟩ := HSC'.out (by omega)
      obtain ⟨c0, c1⟩ := hcell k hlt
      obtain ⟨d0, d1⟩ := hcell' k hlt
      rw [← HK.out.bel.cell (by exact hbl)] at c0 c1
      rw [← HK.out.bel.cell (by exact hbl')] at d0 d1
      have x1 : wr.cell? ⟨w.heap.size, 2, none⟩ = some (.slice (some ⟨p, f, none⟩) s.length scap) := cell_of_block HK.out.b0 rfl
      have y1 : wr.cell? ⟨w.heap.size + 1, 2, none⟩ = some (.slice (some ⟨p', f', none⟩) s.length scap') := cell_of_block HK.out.b1 rfl
      generalize s[k] = x at *
      have HKD := Lib.hid (fun n => HK.out.draws n)
      clear hcell hcell' HK
      go_wp2
      go_quiet (fail)
      clear c0 c1 d0 d1 x1 y1
      generalize hwy : World.drewN wr _ = wy
      have HKY : Hid (SI w wy #[.int .i64 B, .slice cad b.length ccap, .slice (some ⟨p, f, none⟩) s.length scap] #[.int .i64 B, .slice cad' b.length ccap', .slice (some ⟨p', f', none⟩) s.length scap']) := hwy ▸ HKD.out _
      clear hwy HKD
      go_wp2
      exact ⟨⟨k + 1, by omega, by go_num, HKY⟩, by simp [intOf]; omega⟩
    · have hk1 : ¬ (k : Int) < s.length := by omega
      go_wp2
      go_ret
      exact ⟨rfl, HK.out.bel⟩

set_option maxRecDepth 100000 in
theorem eqR (r : Nat → Int) (w : World) : (Op.equalIn 10000 22 (.agg #[.int .i64 (r 0), .int .i64 (r 1), .int .i64 (r 2), .int .i64 (r 3), .int .i64 (r 4), .int .i64 (r 5), .int .i64 (r 6), .int .i64 (r 7), .int .i64 (r 8), .int .i64 (r 9), .int .i64 (r 10), .int .i64 (r 11), .int .i64 (r 12), .int .i64 (r 13), .int .i64 (r 14), .int .i64 (r 15)]) (.agg #[.int .i64 (r 0), .int .i64 (r 1), .int .i64 (r 2), .int .i64 (r 3), .int .i64 (r 4), .int .i64 (r 5), .int .i64 (r 6), .int .i64 (r 7), .int .i64 (r 8), .int .i64 (r 9), .int .i64 (r 10), .int .i64 (r 11), .int .i64 (r 12), .int .i64 (r 13), .int .i64 (r 14), .int .i64 (r 15)])).run Tryd.prog w = .ok true w := by
  have u3 := Tryd.underlying3
  have a3 := Tryd.isAgg3
  have z3 := Tryd.sizeOf3
  rw [show (10000 : Nat) = 9999 + 1 from rfl, Op.equalIn]
  simp only [Sem.run_bind, run_underlying Tryd.underlying22, Result.andThen_ok]
  simp only [Std.Legacy.Range.forIn_eq_forIn_range', Std.Legacy.Range.size, Nat.sub_zero, Nat.add_sub_cancel, Nat.div_one, List.range'_succ, List.range'_zero, List.forIn_cons, List.forIn_nil]
  go_simp

theorem mcs {W : World} {g : Nat} {m : Ma} {ba : Option Addr} {bc : Nat} {sv : Value} {ta : Option Addr} {tc : Nat} (h : W.heap[g]? = some (.cells (mC m ba bc sv ta tc) 29 (0, 0))) : W.cell? ⟨g, 16, none⟩ = some (.bool m.t) ∧ W.cell? ⟨g, 17, none⟩ = some (.int .i64 m.pc) ∧ W.cell? ⟨g, 18, none⟩ = some (.int .i64 m.pr) ∧ W.cell? ⟨g, 19, none⟩ = some (.int .i64 m.base) ∧ W.cell? ⟨g, 20, none⟩ = some (.slice ba m.by'.length bc) ∧ W.cell? ⟨g, 21, none⟩ = some sv ∧ W.cell? ⟨g, 22, none⟩ = some (.slice ta m.told.length tc) ∧ W.cell? ⟨g, 23, none⟩ = some (.int .i64 m.st) :=
  ⟨cell_of_block (i := 16) h rfl, cell_of_block (i := 17) h rfl, cell_of_block (i := 18) h rfl, cell_of_block (i := 19) h rfl, cell_of_block (i := 20) h rfl, cell_of_block (i := 21) h rfl, cell_of_block (i := 22) h rfl, cell_of_block (i := 23) h rfl⟩

/-- The two boxes of machines, and all that was. -/
structure SM (w wr : World) (a b : Array Value) : Prop where
  bel : Below w.heap.size w wr
  b0 : wr.heap[w.heap.size]? = some (.cells a 29 (0, 0))
  b1 : wr.heap[w.heap.size + 1]? = some (.cells b 29 (0, 0))
theorem SM.draws {w wr : World} {a b : Array Value} (h : SM w wr a b) (n : Nat) : SM w (wr.drewN n) a b := by
  have hb : Below wr.heap.size wr (wr.drewN n) := Go.Joins.below_draws _ _ _
  exact ⟨h.bel.trans (hb.mono h.bel.size), by rw [hb.block _ (Array.getElem?_eq_some_iff.1 h.b0).1]; exact h.b0, by rw [hb.block _ (Array.getElem?_eq_some_iff.1 h.b1).1]; exact h.b1⟩

set_option maxHeartbeats 8000000 in
set_option maxRecDepth 100000 in
theorem same_any (m : Ma) (sy : List Sy) (v v' : Value) (w : World) (hv : MV w v m sy) (hv' : MV w v' m sy) (hl : m.by'.length ≤ 140737488355328) (hs : sy.length ≤ 140737488355328) (ht : m.told.length ≤ 140737488355328) :
    Calls Tryd.prog 9 #[v, v'] w fun e w' => e = .returned (.bool true) ∧ Below w.heap.size w w' := by
  obtain ⟨ba, bc, s0, s2, ta, tc, rfl, hB, hT, hS⟩ := hv
  obtain ⟨ba', bc', s0', s2', ta', tc', rfl, hB', hT', hS'⟩ := hv'
  obtain ⟨V, hV⟩ : ∃ V, V = (w.alloc (.cells (mC m ba bc (.slice s0 sy.length s2) ta tc) 29)).alloc (.cells (mC m ba' bc' (.slice s0' sy.length s2') ta' tc') 29) := ⟨_, rfl⟩
  have hV0 : Below w.heap.size w V := by rw [hV]; exact (oalloc _ _).trans ((oalloc _ _).mono (by simp))
  have hV1 : V.heap[w.heap.size]? = some (.cells (mC m ba bc (.slice s0 sy.length s2) ta tc) 29 (0, 0)) := by rw [hV, (oalloc _ _).block _ (by simp)]; exact blk_new _ _ _
  have hV2 : V.heap[w.heap.size + 1]? = some (.cells (mC m ba' bc' (.slice s0' sy.length s2') ta' tc') 29 (0, 0)) := by
    rw [hV]
    have := blk_new (w.alloc (.cells (mC m ba bc (.slice s0 sy.length s2) ta tc) 29)) (mC m ba' bc' (.slice s0' sy.length s2') ta' tc') 29
    simpa using this
  have HI := Lib.hid (simg_any m.base m.by' sy (.slice ba m.by'.length bc) (.slice s0 sy.length s2) (.slice ba' m.by'.length bc') (.slice s0' sy.length s2') V ((hB.next hV0).ob (by unfold maxLen; omega)) ((hS.below hV0 (Nat.le_refl _)).sy (by unfold maxLen; omega)) ((hB'.next hV0).ob (by unfold maxLen; omega)) ((hS'.below hV0 (Nat.le_refl _)).sy (by unfold maxLen; omega)))
  have a0 := fun k (hk : k < 16) => cell_of_block (i := k) hV1 (mC_reg m ba bc _ ta tc k hk)
  have b0 := fun k (hk : k < 16) => cell_of_block (i := k) hV2 (mC_reg m ba' bc' _ ta' tc' k hk)
  have a0' := a0 0 (by decide)
  have b0' := b0 0 (by decide)
  have a1' := a0 1 (by decide)
  have b1' := b0 1 (by decide)
  have a2' := a0 2 (by decide)
  have b2' := b0 2 (by decide)
  have a3' := a0 3 (by decide)
  have b3' := b0 3 (by decide)
  have a4' := a0 4 (by decide)
  have b4' := b0 4 (by decide)
  have a5' := a0 5 (by decide)
  have b5' := b0 5 (by decide)
  have a6' := a0 6 (by decide)
  have b6' := b0 6 (by decide)
  have a7' := a0 7 (by decide)
  have b7' := b0 7 (by decide)
  have a8' := a0 8 (by decide)
  have b8' := b0 8 (by decide)
  have a9' := a0 9 (by decide)
  have b9' := b0 9 (by decide)
  have a10' := a0 10 (by decide)
  have b10' := b0 10 (by decide)
  have a11' := a0 11 (by decide)
  have b11' := b0 11 (by decide)
  have a12' := a0 12 (by decide)
  have b12' := b0 12 (by decide)
  have a13' := a0 13 (by decide)
  have b13' := b0 13 (by decide)
  have a14' := a0 14 (by decide)
  have b14' := b0 14 (by decide)
  have a15' := a0 15 (by decide)
  have b15' := b0 15 (by decide)
  obtain ⟨a16, a17, a18, a19, a20, a21, a22, a23⟩ := mcs hV1
  obtain ⟨b16, b17, b18, b19, b20, b21, b22, b23⟩ := mcs hV2
  have hEq := eqR m.r
  have HV := Lib.hid hV.symm
  have HV0 := Lib.hid hV0
  have HV1 := Lib.hid hV1
  have HV2 := Lib.hid hV2
  have HT := Lib.hid hT
  have HT' := Lib.hid hT'
  clear hV hV0 hV1 hV2 hB hB' hS hS' hT hT' a0 b0
  go_enter Tryd.func9, Tryd.ntmps9
  go_upto_region 1 with fail
  rw [HV.out]
  clear HV
  go_wp2_with (first | (go_at_call 13; refine HI.out.mono ?_; rintro e W1 ⟨rfl, hb1⟩; have HW1 := Lib.hid (show SM w W1 (mC m ba bc (.slice s0 sy.length s2) ta tc) (mC m ba' bc' (.slice s0' sy.length s2') ta' tc') from ⟨HV0.out.trans (hb1.mono HV0.out.size), (hb1.block _ (Array.getElem?_eq_some_iff.1 HV1.out).1).trans HV1.out, (hb1.block _ (Array.getElem?_eq_some_iff.1 HV2.out).1).trans HV2.out⟩); obtain ⟨_, _, _, _, _, _, t22, _⟩ := mcs HW1.out.b0; clear hb1) | fail)
  clear HI HV0 HV1 HV2
  go_loopw [59] (fun i wr => ∃ k : Nat, k ≤ m.told.length ∧ i = .int .i64 k ∧ Hid (SM w wr (mC m ba bc (.slice s0 sy.length s2) ta tc) (mC m ba' bc' (.slice s0' sy.length s2') ta' tc'))) (fun i _ => m.told.length - (intOf i).toNat)
  case atStart => exact ⟨0, Nat.zero_le _, rfl, HW1⟩
  case round =>
    obtain ⟨k, hk, rfl, HK⟩ := hrel
    clear HW1
    by_cases hlt : k < m.told.length
    · have hk1 : (k : Int) < m.told.length := by omega
      obtain ⟨p, f, hp, hbl, hcell⟩ := HT.out (by omega)
      obtain ⟨p', f', hp', hbl', hcell'⟩ := HT'.out (by omega)
      have c0 := hcell k hlt
      have d0 := hcell' k hlt
      rw [← HK.out.bel.cell (by exact hbl)] at c0
      rw [← HK.out.bel.cell (by exact hbl')] at d0
      have x1 : wr.cell? ⟨w.heap.size, 22, none⟩ = some (.slice (some ⟨p, f, none⟩) m.told.length tc) := by rw [← hp]; exact (mcs HK.out.b0).2.2.2.2.2.2.1
      have y1 : wr.cell? ⟨w.heap.size + 1, 22, none⟩ = some (.slice (some ⟨p', f', none⟩) m.told.length tc') := by rw [← hp']; exact (mcs HK.out.b1).2.2.2.2.2.2.1
      have HKD := Lib.hid (fun n => HK.out.draws n)
      generalize m.told.getD k 0 = x at *
      clear hcell hcell' HK hp hp'
      go_wp2
      go_quiet (fail)
      clear c0 d0 x1 y1
      generalize hwy : World.drewN wr _ = wy
      have HKY : Hid (SM w wy (mC m ba bc (.slice s0 sy.length s2) ta tc) (mC m ba' bc' (.slice s0' sy.length s2') ta' tc')) := hwy ▸ HKD.out _
      clear hwy HKD
      go_wp2
      exact ⟨⟨k + 1, by omega, by go_num, HKY⟩, by simp [intOf]; omega⟩
    · have hk1 : ¬ (k : Int) < m.told.length := by omega
      go_wp2
      go_ret
      exact ⟨rfl, HK.out.bel⟩

end Go.Proofs.YtabepbaldadmgaaDoor
