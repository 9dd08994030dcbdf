/- The contract of the document's own SameObject: of two objects that are the same. -/
import Derived.Test.YtobdcnpifbnjaacOcPc
namespace Go.Proofs.Ytobdcnpifbnjaac
open Go.RowKit

/-- The two boxes, and all that was. -/
structure SK (w wr : World) (a b : Array Value) : Prop where
  bel : Below w.heap.size w wr
  b0 : wr.heap[w.heap.size]? = some (.cells a 26 (0, 0))
  b1 : wr.heap[w.heap.size + 1]? = some (.cells b 26 (0, 0))
theorem SK.draws {w wr : World} {a b : Array Value} (h : SK w wr a b) (n : Nat) : SK w (wr.drewN n) a b := by
  have hb : Below wr.heap.size wr (wr.drewN n) := Go.Joins.below_draws _ _ _
  exact ⟨h.bel.trans (hb.mono h.bel.size), by rw [hb.block _ (Array.getElem?_eq_some_iff.1 h.b0).1]; exact h.b0, by rw [hb.block _ (Array.getElem?_eq_some_iff.1 h.b1).1]; exact h.b1⟩

set_option maxHeartbeats 8000000 in
theorem same_any (o : Ob) (cv sv rv cv' sv' rv' : Value) (w : World) (hC : OBytes w cv o.code) (hS : OSyms w sv o.syms) (hR : ORels w rv o.rels) (hC' : OBytes w cv' o.code) (hS' : OSyms w sv' o.syms) (hR' : ORels w rv' o.rels) :
    Calls Try.prog 8 #[obV cv sv rv, obV cv' sv' rv'] w fun e w' => e = .returned (.bool true) ∧ Below w.heap.size w w' := by
  have hcv : ∀ p q : Obj, (convert 22 9 cv).run Try.prog ((w.alloc p).alloc q) = .ok (.string ⟨o.code.toArray⟩) ((w.alloc p).alloc q) := fun p q => oconv (hC.below ((oalloc w p).alloc (by simp) q) (Nat.le_refl _))
  have hcv' : ∀ p q : Obj, (convert 22 9 cv').run Try.prog ((w.alloc p).alloc q) = .ok (.string ⟨o.code.toArray⟩) ((w.alloc p).alloc q) := fun p q => oconv (hC'.below ((oalloc w p).alloc (by simp) q) (Nat.le_refl _))
  obtain ⟨cad, ccap, rfl, hcm, z1⟩ := hC
  obtain ⟨sad, scap, rfl, hsm, hsc⟩ := hS
  obtain ⟨rad, rcap, rfl, hrm, hrc⟩ := hR
  obtain ⟨cad', ccap', rfl, hcm', z1'⟩ := hC'
  obtain ⟨sad', scap', rfl, hsm', hsc'⟩ := hS'
  obtain ⟨rad', rcap', rfl, hrm', hrc'⟩ := hR'
  have HSC := Lib.hid hsc
  have HRC := Lib.hid hrc
  have HSC' := Lib.hid hsc'
  have HRC' := Lib.hid hrc'
  have hsl : o.syms.length ≤ 9223372036854775807 := hsm.1
  have hrl : o.rels.length ≤ 9223372036854775807 := hrm
  clear z1 z1' hcm hcm' hsc hrc hsc' hrc' hsm hrm hsm' hrm'
  unfold obV
  have HSK : Hid (SK w ((w.alloc (.cells #[.slice cad o.code.length ccap, .slice sad o.syms.length scap, .slice rad o.rels.length rcap] 26)).alloc (.cells #[.slice cad' o.code.length ccap', .slice sad' o.syms.length scap', .slice rad' o.rels.length rcap'] 26)) #[.slice cad o.code.length ccap, .slice sad o.syms.length scap, .slice rad o.rels.length rcap] #[.slice cad' o.code.length ccap', .slice sad' o.syms.length scap', .slice rad' o.rels.length rcap']) := by
    refine ⟨(oalloc w _).alloc (by simp) _, ?_, ?_⟩
    · rw [Below.heap_alloc _ _ _ (by simp)]; exact heap_alloc_new w _
    · have := heap_alloc_new (w.alloc (.cells #[.slice cad o.code.length ccap, .slice sad o.syms.length scap, .slice rad o.rels.length rcap] 26)) (.cells #[.slice cad' o.code.length ccap', .slice sad' o.syms.length scap', .slice rad' o.rels.length rcap'] 26)
      simpa using this
  go_enter Try.func8, Try.ntmps8
  go_wp2
  clear hcv hcv'
  go_loopw [35] (fun i wr => ∃ k : Nat, k ≤ o.syms.length ∧ i = .int .i64 k ∧ Hid (SK w wr #[.slice cad o.code.length ccap, .slice sad o.syms.length scap, .slice rad o.rels.length rcap] #[.slice cad' o.code.length ccap', .slice sad' o.syms.length scap', .slice rad' o.rels.length rcap'])) (fun i _ => o.syms.length - (intOf i).toNat)
  case atStart => exact ⟨0, Nat.zero_le _, rfl, HSK⟩
  case round =>
    obtain ⟨k, hk, rfl, HK⟩ := hrel
    clear HSK
    by_cases hlt : k < o.syms.length
    · have hk1 : (k : Int) < o.syms.length := by omega
      obtain ⟨b, f, rfl, hbl, hcell⟩ := HSC.out (by omega)
      obtain ⟨b', f', rfl, hbl', hcell'⟩ := HSC'.out (by omega)
      obtain ⟨c0, c1⟩ := hcell k hlt
      obtain ⟨d0, d1⟩ := hcell' k hlt
      rw [← HK.out.bel.cell (by exact hbl)] at c0 c1
      rw [← HK.out.bel.cell (by exact hbl')] at d0 d1
      have x1 : wr.cell? ⟨w.heap.size, 1, none⟩ = some (.slice (some ⟨b, f, none⟩) o.syms.length scap) := cell_of_block HK.out.b0 rfl
      have y1 : wr.cell? ⟨w.heap.size + 1, 1, none⟩ = some (.slice (some ⟨b', f', none⟩) o.syms.length scap') := cell_of_block HK.out.b1 rfl
      generalize o.syms[k] = s at *
      have HKD : Hid (∀ n, SK w (wr.drewN n) #[.slice cad o.code.length ccap, .slice (some ⟨b, f, none⟩) o.syms.length scap, .slice rad o.rels.length rcap] #[.slice cad' o.code.length ccap', .slice (some ⟨b', f', none⟩) o.syms.length scap', .slice rad' o.rels.length rcap']) := fun n => HK.out.draws n
      clear hcell hcell' HK
      go_wp2
      go_quiet (fail)
      clear c0 c1 d0 d1 x1 y1
      generalize hwy : World.drewN wr _ = wy
      have HKY : Hid (SK w wy #[.slice cad o.code.length ccap, .slice (some ⟨b, f, none⟩) o.syms.length scap, .slice rad o.rels.length rcap] #[.slice cad' o.code.length ccap', .slice (some ⟨b', f', none⟩) o.syms.length scap', .slice rad' o.rels.length rcap']) := hwy ▸ HKD.out _
      clear hwy HKD
      go_wp2
      exact ⟨⟨k + 1, by omega, by go_num, HKY⟩, by simp [intOf]; omega⟩
    · have hk1 : ¬ (k : Int) < o.syms.length := by omega
      have x2 : wr.cell? ⟨w.heap.size, 2, none⟩ = some (.slice rad o.rels.length rcap) := cell_of_block HK.out.b0 rfl
      clear HSC HSC'
      go_wp2
      go_loopw [53] (fun i wr => ∃ k : Nat, k ≤ o.rels.length ∧ i = .int .i64 k ∧ Hid (SK w wr #[.slice cad o.code.length ccap, .slice sad o.syms.length scap, .slice rad o.rels.length rcap] #[.slice cad' o.code.length ccap', .slice sad' o.syms.length scap', .slice rad' o.rels.length rcap'])) (fun i _ => o.rels.length - (intOf i).toNat)
      case atStart => exact ⟨0, Nat.zero_le _, rfl, HK⟩
      case round =>
        obtain ⟨k, hk, rfl, HK⟩ := hrel
        clear x2
        by_cases hlt : k < o.rels.length
        · have hk1 : (k : Int) < o.rels.length := by omega
          obtain ⟨b, f, rfl, hbl, hcell⟩ := HRC.out (by omega)
          obtain ⟨b', f', rfl, hbl', hcell'⟩ := HRC'.out (by omega)
          obtain ⟨c0, c1, c2, c3⟩ := hcell k hlt
          obtain ⟨d0, d1, d2, d3⟩ := hcell' k hlt
          rw [← HK.out.bel.cell (by exact hbl)] at c0 c1 c2 c3
          rw [← HK.out.bel.cell (by exact hbl')] at d0 d1 d2 d3
          have x1 : wr.cell? ⟨w.heap.size, 2, none⟩ = some (.slice (some ⟨b, f, none⟩) o.rels.length rcap) := cell_of_block HK.out.b0 rfl
          have y1 : wr.cell? ⟨w.heap.size + 1, 2, none⟩ = some (.slice (some ⟨b', f', none⟩) o.rels.length rcap') := cell_of_block HK.out.b1 rfl
          generalize o.rels[k] = s at *
          have HKD : Hid (∀ n, SK w (wr.drewN n) #[.slice cad o.code.length ccap, .slice sad o.syms.length scap, .slice (some ⟨b, f, none⟩) o.rels.length rcap] #[.slice cad' o.code.length ccap', .slice sad' o.syms.length scap', .slice (some ⟨b', f', none⟩) o.rels.length rcap']) := fun n => HK.out.draws n
          clear hcell hcell' HK
          go_wp2
          go_quiet (fail)
          clear c0 c1 c2 c3 d0 d1 d2 d3 x1 y1
          generalize hwy : World.drewN wr _ = wy
          have HKY : Hid (SK w wy #[.slice cad o.code.length ccap, .slice sad o.syms.length scap, .slice (some ⟨b, f, none⟩) o.rels.length rcap] #[.slice cad' o.code.length ccap', .slice sad' o.syms.length scap', .slice (some ⟨b', f', none⟩) o.rels.length rcap']) := hwy ▸ HKD.out _
          clear hwy HKD
          go_wp2
          exact ⟨⟨k + 1, by omega, by go_num, HKY⟩, by simp [intOf]; omega⟩
        · have hk1 : ¬ (k : Int) < o.rels.length := by omega
          go_wp2
          go_ret
          exact ⟨rfl, HK.out.bel⟩

end Go.Proofs.Ytobdcnpifbnjaac
