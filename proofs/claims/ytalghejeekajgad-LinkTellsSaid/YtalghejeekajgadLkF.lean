/- The image while relocs are put: its box, its bytes and its syms. -/
import Derived.Test.YtalghejeekajgadLkE
namespace Go.Proofs.Ytalghejeekajgad
open Go.RowKit

theorem putRels_at {syms : List Sy} {base at' : Int} {b : List UInt8} {l : List Re} {k : Nat} (hk : k < l.length) : putRels syms base at' b (l.drop k) = match putRel syms base at' b l[k] with
    | .error e => .error e
    | .ok c => putRels syms base at' c (l.drop (k + 1)) := by
  rw [List.drop_eq_getElem_cons hk]; rfl
theorem relL_at {syms : List Sy} {l : List Ob} {base : Int} {k : Nat} (hk : k < l.length) (b : List UInt8) : relL syms base k b ((l.zip (basesL base l)).drop k) = match putRels syms base (up4 (endL base (l.take k))) b l[k].rels with
    | .error e => .error (e, k)
    | .ok c => relL syms base (k + 1) c ((l.zip (basesL base l)).drop (k + 1)) := by
  rw [zip_drop hk]; rfl
theorem relL_end {syms : List Sy} {l : List Ob} {base : Int} {k : Nat} (hk : l.length ≤ k) (b : List UInt8) : relL syms base k b ((l.zip (basesL base l)).drop k) = .ok b := by
  rw [List.drop_eq_nil_of_le (by simp; omega)]; rfl
theorem putRel_err {syms : List Sy} {base at' p : Int} {b : List UInt8} {r : Re} (hp : (if r.name = [] then at' else whereL r.name syms) = p) (h : p < 0) : putRel syms base at' b r = .error 6 := by
  subst hp
  unfold putRel
  exact if_pos h
theorem putRel_far {syms : List Sy} {base at' p : Int} {b : List UInt8} {r : Re} (hp : (if r.name = [] then at' else whereL r.name syms) = p) (h : ¬ p < 0) (h2 : r.size = 2 ∧ (65535 < wrap32 (p + r.add) ∨ wrap32 (p + r.add) < -32768)) : putRel syms base at' b r = .error 3 := by
  subst hp
  unfold putRel
  exact (if_neg h).trans (if_pos h2)
theorem putRel_ok {syms : List Sy} {base at' p : Int} {b : List UInt8} {r : Re} (hp : (if r.name = [] then at' else whereL r.name syms) = p) (h : ¬ p < 0) (h2 : ¬ (r.size = 2 ∧ (65535 < wrap32 (p + r.add) ∨ wrap32 (p + r.add) < -32768))) : putRel syms base at' b r = .ok (putL b (at' - base + r.pos) r.size (wrap32 (p + r.add))) := by
  subst hp
  unfold putRel
  exact (if_neg h).trans (if_neg h2)
theorem wrap32_64 (n : Int) : wrap32 (IntKind.i64.wrap n) = wrap32 n := by
  rw [IntKind.wrap_i64]; unfold wrap32; omega

theorem wrap32_w (n : Int) : wrap32 (wrap64 n) = wrap32 n := by unfold wrap32 wrap64; omega

theorem relsErr_in {nm : List UInt8 → Bool} {len : Nat} : ∀ (l : List Re) (last : Int), 0 ≤ last → relsErr nm len last l = 0 → ∀ r, r ∈ l → (r.size = 2 ∨ r.size = 4) ∧ 0 ≤ r.pos ∧ r.pos ≤ 8000 ∧ r.pos + r.size ≤ len ∧ (r.name = [] ∨ nm r.name = true)
  | [], _, _, _ => fun r hr => by cases hr
  | x :: l, last, h0, h => by
    have hx : relErr nm len last x = 0 := by
      unfold relsErr at h
      split at h
      · assumption
      · contradiction
    rw [relsErr, if_pos hx] at h
    unfold relErr at hx
    split at hx
    · cases hx
    · split at hx
      · cases hx
      · split at hx
        · cases hx
        · split at hx
          · cases hx
          · rename_i h1 h2 h3 h4
            intro r hr
            rcases List.mem_cons.1 hr with rfl | hr
            · refine ⟨by omega, by omega, by omega, by omega, ?_⟩
              by_cases hn : r.name = []
              · exact Or.inl hn
              · right
                cases hq : nm r.name
                · exact absurd ⟨hn, hq⟩ h4
                · rfl
            · exact relsErr_in l (x.pos + x.size) (by omega) h r hr
theorem wrongO_rels {nm : List UInt8 → Bool} {o : Ob} (h : wrongO nm o = 0) : ∀ r, r ∈ o.rels → (r.size = 2 ∨ r.size = 4) ∧ 0 ≤ r.pos ∧ r.pos ≤ 8000 ∧ r.pos + r.size ≤ o.code.length ∧ (r.name = [] ∨ nm r.name = true) := by
  unfold wrongO at h
  split at h
  · cases h
  · split at h
    · exact relsErr_in _ 0 (Int.le_refl _) h
    · contradiction

theorem OBytes.set {W : World} {v : Value} {l : List UInt8} (h : OBytes W v l) (M o : Nat) (x : Value) (hM : ∀ a n c, v = .slice (some a) n c → a.block ≠ M) : OBytes (W.setCell ⟨M, o, none⟩ x) v l := by
  obtain ⟨ad, cap, rfl, hm, hc⟩ := h
  refine ⟨ad, cap, rfl, hm, fun h0 => ?_⟩
  obtain ⟨b, f, rfl, hlt, hcell⟩ := hc h0
  have hne : b ≠ M := hM _ _ _ rfl
  refine ⟨b, f, rfl, by simpa using hlt, fun i hi => ?_⟩
  rw [World.cell?_setCell_other _ _ _ _ (by intro e; cases e; exact hne rfl)]
  exact hcell i hi
theorem OSyms.set {W : World} {v : Value} {l : List Sy} (h : OSyms W v l) (M o : Nat) (x : Value) (hM : ∀ a n c, v = .slice (some a) n c → a.block ≠ M) : OSyms (W.setCell ⟨M, o, none⟩ x) v l := by
  obtain ⟨ad, cap, rfl, hm, hc⟩ := h
  refine ⟨ad, cap, rfl, hm, fun h0 => ?_⟩
  obtain ⟨b, f, rfl, hlt, hcell⟩ := hc h0
  have hne : b ≠ M := hM _ _ _ rfl
  refine ⟨b, f, rfl, by simpa using hlt, fun i hi => ?_⟩
  rw [World.cell?_setCell_other _ _ _ _ (by intro e; cases e; exact hne rfl), World.cell?_setCell_other _ _ _ _ (by intro e; cases e; exact hne rfl)]
  exact hcell i hi

theorem rput_list2 (v : Value) (l : List UInt8) (p size n : Int) (w : World) (hv : OBytes w v l) (hl : l.length ≤ 140737488351232) (hs0 : 0 ≤ size) (hs1 : size ≤ 6) (ha0 : -1000000000 ≤ p) (ha1 : p ≤ 1000000000) :
    Calls Try.prog 34 #[v, .int .i64 p, .int .i64 size, .int .i64 n] w fun e w' => ∃ g c, e = .returned (.slice (some ⟨g, 0, none⟩) l.length c) ∧ Below w.heap.size w w' ∧ w.heap.size ≤ g ∧ OBytes w' (.slice (some ⟨g, 0, none⟩) l.length c) (putL l p size n) := by
  obtain ⟨ad, cap, rfl, hm, hc⟩ := hv
  refine (Lp.rPut_any ad l.length cap (byF l) p size n w hl (fun h0 => ?_) hs0 hs1 ha0 ha1).mono ?_
  · obtain ⟨b, o, h1, _, h2⟩ := hc h0
    refine ⟨b, o, h1, fun i hi => ?_⟩
    rw [h2 i hi]
    simp [byF, List.getD, hi]
  · rintro e w' ⟨g, c, rfl, hb, hg, hg2, hcell⟩
    refine ⟨g, c, rfl, hb, hg2, some ⟨g, 0, none⟩, c, by rw [putL_len], by rw [putL_len]; exact hm, fun _ => ⟨g, 0, rfl, hg, fun i hi => ?_⟩⟩
    rw [putL_len] at hi
    rw [Nat.zero_add, hcell i hi]
    congr 2
    simp only [Lp.putAt, putL, List.getElem_mapIdx]
    split
    · rw [lowB_nat]
    · simp [byF, List.getD, hi]

/-- The image's box, its bytes and its syms; w1: the world that it was laid in. -/
structure LR (w1 W : World) (base : Int) (b : List UInt8) (s : List Sy) (bv sv : Value) : Prop where
  bel : Below w1.heap.size w1 W
  box : W.heap[w1.heap.size]? = some (.cells #[.int .i64 base, bv, sv] 38 (0, 0))
  by' : OBytes W bv b
  sy : OSyms W sv s
  bf : ∀ a n c, bv = .slice (some a) n c → w1.heap.size < a.block
  sf : ∀ a n c, sv = .slice (some a) n c → w1.heap.size < a.block

section
variable {w1 W W' : World} {base : Int} {b : List UInt8} {s : List Sy} {bv sv : Value}
theorem LR.of (h : LO w1 W base b s bv sv) (hb : b.length ≤ maxLen) : LR w1 W base b s bv sv := by
  refine ⟨h.bel, h.box, h.by'.bytes hb, ownS_row h.sy, ?_, ?_⟩
  · rintro a n c rfl
    have := (h.by'.lt a.block rfl).1
    omega
  · rintro a n c rfl
    have := (h.sy.lt a.block rfl).1
    omega
theorem LR.size (h : LR w1 W base b s bv sv) : w1.heap.size < W.heap.size := (Array.getElem?_eq_some_iff.1 h.box).1
theorem LR.go (h : LR w1 W base b s bv sv) (hb : Below W.heap.size W W') : LR w1 W' base b s bv sv :=
  ⟨h.bel.trans (hb.mono (Nat.le_of_lt h.size)), by rw [hb.block _ h.size]; exact h.box, h.by'.below hb (Nat.le_refl _), h.sy.below hb (Nat.le_refl _), h.bf, h.sf⟩
theorem LR.cells (h : LR w1 W base b s bv sv) : W.cell? ⟨w1.heap.size, 0, none⟩ = some (.int .i64 base) ∧ W.cell? ⟨w1.heap.size, 1, none⟩ = some bv ∧ W.cell? ⟨w1.heap.size, 2, none⟩ = some sv ∧ W.frozen? ⟨w1.heap.size, 1, none⟩ = false :=
  ⟨blk_cell h.box rfl, blk_cell h.box rfl, blk_cell h.box rfl, blk_froz h.box⟩
/-- Bytes that were just made take the place of those that were there. -/
theorem LR.put (h : LR w1 W base b s bv sv) {b' : List UInt8} {g n c : Nat} (hg : W.heap.size ≤ g) (hb : Below W.heap.size W W') (hx : OBytes W' (.slice (some ⟨g, 0, none⟩) n c) b') :
    LR w1 (W'.setCell ⟨w1.heap.size, 1, none⟩ (.slice (some ⟨g, 0, none⟩) n c)) base b' s (.slice (some ⟨g, 0, none⟩) n c) sv := by
  have h2 := h.go hb
  have hz := h.size
  have hgf : ∀ a n' c', Value.slice (some ⟨g, 0, none⟩) n c = .slice (some a) n' c' → w1.heap.size < a.block := by
    intro a n' c' e
    cases e
    show _ < g
    omega
  refine ⟨h2.bel.setCell (Nat.le_refl _) _, ?_, hx.set _ _ _ (fun a n c e => by have := hgf a n c e; omega), h2.sy.set _ _ _ (fun a n c e => by have := h.sf a n c e; omega), hgf, h.sf⟩
  rw [_root_.Go.heap_setCell_same W' _ 1 _ _ _ h2.box]; rfl
theorem LR.draws (h : LR w1 W base b s bv sv) (n : Nat) : LR w1 (W.drewN n) base b s bv sv := h.go (Go.Joins.below_draws _ _ _)
/-- The results' boxes are told of it. -/
theorem LR.five {w0 : World} (h : LR w1 W base b s bv sv) (hz : w0.heap.size + 2 ≤ w1.heap.size) (x y z u v : Value) :
    OBytes (((((W.setCell ⟨w0.heap.size, 0, none⟩ x).setCell ⟨w0.heap.size, 1, none⟩ y).setCell ⟨w0.heap.size, 2, none⟩ z).setCell ⟨w0.heap.size + 1, 0, none⟩ u).setCell ⟨w0.heap.size + 1, 1, none⟩ v) bv b ∧
    OSyms (((((W.setCell ⟨w0.heap.size, 0, none⟩ x).setCell ⟨w0.heap.size, 1, none⟩ y).setCell ⟨w0.heap.size, 2, none⟩ z).setCell ⟨w0.heap.size + 1, 0, none⟩ u).setCell ⟨w0.heap.size + 1, 1, none⟩ v) sv s := by
  have f1 : ∀ a n c, bv = .slice (some a) n c → a.block ≠ w0.heap.size := fun a n c e => by have := h.bf a n c e; omega
  have f2 : ∀ a n c, bv = .slice (some a) n c → a.block ≠ w0.heap.size + 1 := fun a n c e => by have := h.bf a n c e; omega
  have g1 : ∀ a n c, sv = .slice (some a) n c → a.block ≠ w0.heap.size := fun a n c e => by have := h.sf a n c e; omega
  have g2 : ∀ a n c, sv = .slice (some a) n c → a.block ≠ w0.heap.size + 1 := fun a n c e => by have := h.sf a n c e; omega
  exact ⟨((((h.by'.set _ _ _ f1).set _ _ _ f1).set _ _ _ f1).set _ _ _ f2).set _ _ _ f2, ((((h.sy.set _ _ _ g1).set _ _ _ g1).set _ _ _ g1).set _ _ _ g2).set _ _ _ g2⟩

/-- With a box of an object, or of a reloc, that was laid later. -/
structure LRX (w1 W : World) (base : Int) (b : List UInt8) (s : List Sy) (bv sv : Value) (N : Nat) (c y r : Value) : Prop where
  lr : LR w1 W base b s bv sv
  ob : W.heap[N]? = some (.cells #[c, y, r] 26 (0, 0))
  far : w1.heap.size < N
variable {N : Nat} {c y r : Value}
theorem LRX.lt (h : LRX w1 W base b s bv sv N c y r) : N < W.heap.size := (Array.getElem?_eq_some_iff.1 h.ob).1
theorem LRX.go (h : LRX w1 W base b s bv sv N c y r) (hb : Below W.heap.size W W') : LRX w1 W' base b s bv sv N c y r := ⟨h.lr.go hb, by rw [hb.block _ h.lt]; exact h.ob, h.far⟩
theorem LRX.put (h : LRX w1 W base b s bv sv N c y r) {b' : List UInt8} {g n c' : Nat} (hg : W.heap.size ≤ g) (hb : Below W.heap.size W W') (hx : OBytes W' (.slice (some ⟨g, 0, none⟩) n c') b') :
    LRX w1 (W'.setCell ⟨w1.heap.size, 1, none⟩ (.slice (some ⟨g, 0, none⟩) n c')) base b' s (.slice (some ⟨g, 0, none⟩) n c') sv N c y r :=
  ⟨h.lr.put hg hb hx, by rw [Below.heap_setCell _ _ _ _ (by have := h.far; show N ≠ w1.heap.size; omega)]; exact (h.go hb).ob, h.far⟩
theorem LRX.cells (h : LRX w1 W base b s bv sv N c y r) : W.cell? ⟨N, 0, none⟩ = some c ∧ W.cell? ⟨N, 1, none⟩ = some y ∧ W.cell? ⟨N, 2, none⟩ = some r := ⟨blk_cell h.ob rfl, blk_cell h.ob rfl, blk_cell h.ob rfl⟩
end

theorem rsigned_as (n n' : Int) (w : World) (h : wrap32 n = n') : Calls Try.prog 33 #[.int .i64 n] w fun e w' => e = .returned (.int .i64 n') ∧ w = w' := by
  subst h
  exact (rsigned_ob n w).mono fun e w' h => ⟨h.1, h.2.symm⟩

end Go.Proofs.Ytalghejeekajgad
