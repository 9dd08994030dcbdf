/- The document's own SameImage, and the walk of pllaw7.LinkTells. -/
import Derived.Test.YtalghejeekajgadLdZ
import Derived.Test.YtalghejeekajgadLkD
namespace Go.Proofs.Ytalghejeekajgad
open Go.RowKit

theorem oconv {w : World} {v : Value} {bs : List UInt8} (h : OBytes w v bs) : (convert 22 9 v).run Try.prog w = .ok (.string ⟨bs.toArray⟩) w := by
  obtain ⟨ad, cap, rfl, _, hc⟩ := h
  by_cases h0 : 0 < bs.length
  · obtain ⟨b, o, rfl, _, hcell⟩ := hc h0
    have hrun := run_convert_bytes_arg (P := Try.prog) w 22 5 Try.underlying22 Try.underlying5 b o bs.length cap (bs.map fun c => (c.toNat : Int)) (by simp) (fun i hi => by rw [hcell i hi]; simp [List.getD, hi]) 9 Try.underlying9
    have e : strOfNums (bs.map fun c => (c.toNat : Int)) = ⟨bs.toArray⟩ := by
      have hm : (bs.map fun c => (c.toNat : Int)).map (fun n : Int => UInt8.ofNat n.toNat) = bs := by
        rw [List.map_map]
        have : (bs.map ((fun n : Int => UInt8.ofNat n.toNat) ∘ fun c => (c.toNat : Int))) = bs.map id := List.map_congr_left (fun c _ => by simp)
        rw [this, List.map_id]
      unfold strOfNums
      rw [hm]
    rw [e] at hrun
    exact hrun
  · have hb : bs = [] := List.eq_nil_of_length_eq_zero (by omega)
    subst hb
    cases ad with
    | none => exact run_convert_bytes_nil (P := Try.prog) w 22 5 Try.underlying22 Try.underlying5 0 cap 9 Try.underlying9
    | some a =>
      show (convert 22 9 (.slice (some a) 0 cap)).run Try.prog w = _
      rw [run_convert_bytes_string w 22 9 5 _ 0 cap Try.underlying22 Try.underlying5 Try.underlying9]
      have hl : (loadCells a 0).run Try.prog w = .ok (([] : List Int).map (Value.int .u8)).toArray w := by
        have := run_loadCells_list (P := Try.prog) w a ([] : List Value) (fun j v hj => by simp at hj)
        simpa using this
      rw [run_bytesToString w a 0 cap [] hl]
      rfl

/-- The two boxes, and all that was. -/
structure SI (w wr : World) (a b : Array Value) : Prop where
  bel : Below w.heap.size w wr
  b0 : wr.heap[w.heap.size]? = some (.cells a 38 (0, 0))
  b1 : wr.heap[w.heap.size + 1]? = some (.cells b 38 (0, 0))
theorem SI.draws {w wr : World} {a b : Array Value} (h : SI w wr a b) (n : Nat) : SI w (wr.drewN n) a b := by
  have hb : Below wr.heap.size wr (wr.drewN n) := Go.Joins.below_draws _ _ _
  exact ⟨h.bel.trans (hb.mono h.bel.size), by rw [hb.block _ (Array.getElem?_eq_some_iff.1 h.b0).1]; exact h.b0, by rw [hb.block _ (Array.getElem?_eq_some_iff.1 h.b1).1]; exact h.b1⟩

set_option maxHeartbeats 8000000 in
theorem simg_any (B : Int) (b : List UInt8) (s : List Sy) (cv sv cv' sv' : Value) (w : World) (hC : OBytes w cv b) (hS : OSyms w sv s) (hC' : OBytes w cv' b) (hS' : OSyms w sv' s) :
    Calls Try.prog 12 #[.agg #[.int .i64 B, cv, sv], .agg #[.int .i64 B, cv', sv']] w fun e w' => e = .returned (.bool true) ∧ Below w.heap.size w w' := by
  have hcv : ∀ p q : Obj, (convert 22 9 cv).run Try.prog ((w.alloc p).alloc q) = .ok (.string ⟨b.toArray⟩) ((w.alloc p).alloc q) := fun p q => oconv (hC.below ((oalloc w p).alloc (by simp) q) (Nat.le_refl _))
  have hcv' : ∀ p q : Obj, (convert 22 9 cv').run Try.prog ((w.alloc p).alloc q) = .ok (.string ⟨b.toArray⟩) ((w.alloc p).alloc q) := fun p q => oconv (hC'.below ((oalloc w p).alloc (by simp) q) (Nat.le_refl _))
  obtain ⟨cad, ccap, rfl, hcm, z1⟩ := hC
  obtain ⟨sad, scap, rfl, hsm, hsc⟩ := hS
  obtain ⟨cad', ccap', rfl, hcm', z1'⟩ := hC'
  obtain ⟨sad', scap', rfl, hsm', hsc'⟩ := hS'
  have HSC := Lib.hid hsc
  have HSC' := Lib.hid hsc'
  have hsl : s.length ≤ 9223372036854775807 := hsm.1
  clear z1 z1' hcm hcm' hsc hsc' hsm hsm'
  have HSK : Hid (SI w ((w.alloc (.cells #[.int .i64 B, .slice cad b.length ccap, .slice sad s.length scap] 38)).alloc (.cells #[.int .i64 B, .slice cad' b.length ccap', .slice sad' s.length scap'] 38)) #[.int .i64 B, .slice cad b.length ccap, .slice sad s.length scap] #[.int .i64 B, .slice cad' b.length ccap', .slice sad' s.length scap']) := by
    refine ⟨(oalloc w _).alloc (by simp) _, ?_, ?_⟩
    · rw [Below.heap_alloc _ _ _ (by simp)]; exact heap_alloc_new w _
    · have := heap_alloc_new (w.alloc (.cells #[.int .i64 B, .slice cad b.length ccap, .slice sad s.length scap] 38)) (.cells #[.int .i64 B, .slice cad' b.length ccap', .slice sad' s.length scap'] 38)
      simpa using this
  go_enter Try.func12, Try.ntmps12
  go_wp2
  clear hcv hcv'
  go_loopw [32] (fun i wr => ∃ k : Nat, k ≤ s.length ∧ i = .int .i64 k ∧ Hid (SI w wr #[.int .i64 B, .slice cad b.length ccap, .slice sad s.length scap] #[.int .i64 B, .slice cad' b.length ccap', .slice sad' s.length scap'])) (fun i _ => s.length - (intOf i).toNat)
  case atStart => exact ⟨0, Nat.zero_le _, rfl, HSK⟩
  case round =>
    obtain ⟨k, hk, rfl, HK⟩ := hrel
    clear HSK
    by_cases hlt : k < s.length
    · have hk1 : (k : Int) < s.length := by omega
      obtain ⟨p, f, rfl, hbl, hcell⟩ := HSC.out (by omega)
      obtain ⟨p', f', rfl, hbl', hcell'⟩ := HSC'.out (by omega)
      obtain ⟨c0, c1⟩ := hcell k hlt
      obtain ⟨d0, d1⟩ := hcell' k hlt
      rw [← HK.out.bel.cell (by exact hbl)] at c0 c1
      rw [← HK.out.bel.cell (by exact hbl')] at d0 d1
      have x1 : wr.cell? ⟨w.heap.size, 2, none⟩ = some (.slice (some ⟨p, f, none⟩) s.length scap) := cell_of_block HK.out.b0 rfl
      have y1 : wr.cell? ⟨w.heap.size + 1, 2, none⟩ = some (.slice (some ⟨p', f', none⟩) s.length scap') := cell_of_block HK.out.b1 rfl
      generalize s[k] = x at *
      have HKD := Lib.hid (fun n => HK.out.draws n)
      clear hcell hcell' HK
      go_wp2
      go_quiet (fail)
      clear c0 c1 d0 d1 x1 y1
      generalize hwy : World.drewN wr _ = wy
      have HKY : Hid (SI w wy #[.int .i64 B, .slice cad b.length ccap, .slice (some ⟨p, f, none⟩) s.length scap] #[.int .i64 B, .slice cad' b.length ccap', .slice (some ⟨p', f', none⟩) s.length scap']) := hwy ▸ HKD.out _
      clear hwy HKD
      go_wp2
      exact ⟨⟨k + 1, by omega, by go_num, HKY⟩, by simp [intOf]; omega⟩
    · have hk1 : ¬ (k : Int) < s.length := by omega
      go_wp2
      go_ret
      exact ⟨rfl, HK.out.bel⟩

end Go.Proofs.Ytalghejeekajgad
