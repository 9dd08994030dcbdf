/- The contract of the program's own Own of an object. -/
import Derived.Test.YtobdcnpifbnjaacOcOwn
namespace Go.Proofs.Ytobdcnpifbnjaac
open Go.RowKit

theorem OBytes.moved {w W : World} {g o n cap : Nat} {l : List UInt8} (h : OBytes w (.slice (some ⟨g, o, none⟩) n cap) l) (hs : w.heap.size ≤ W.heap.size) (hb : W.heap[g]? = w.heap[g]?) : OBytes W (.slice (some ⟨g, o, none⟩) n cap) l := by
  obtain ⟨ad, c, e, hm, hc⟩ := h
  cases e
  refine ⟨_, _, rfl, hm, fun h0 => ?_⟩
  obtain ⟨b, o', e, hl, hcs⟩ := hc h0
  cases e
  exact ⟨_, _, rfl, Nat.lt_of_lt_of_le hl hs, fun i hi => (World.cell?_of_block (w := w) hb).trans (hcs i hi)⟩
theorem OSyms.moved {w W : World} {g o n cap : Nat} {l : List Sy} (h : OSyms w (.slice (some ⟨g, o, none⟩) n cap) l) (hs : w.heap.size ≤ W.heap.size) (hb : W.heap[g]? = w.heap[g]?) : OSyms W (.slice (some ⟨g, o, none⟩) n cap) l := by
  obtain ⟨ad, c, e, hm, hc⟩ := h
  cases e
  refine ⟨_, _, rfl, hm, fun h0 => ?_⟩
  obtain ⟨b, o', e, hl, hcs⟩ := hc h0
  cases e
  have hk : ∀ p, W.cell? ⟨g, p, none⟩ = w.cell? ⟨g, p, none⟩ := fun p => World.cell?_of_block (w := w) hb
  exact ⟨_, _, rfl, Nat.lt_of_lt_of_le hl hs, fun i hi => ⟨(hk _).trans (hcs i hi).1, (hk _).trans (hcs i hi).2⟩⟩
theorem ORels.moved {w W : World} {g o n cap : Nat} {l : List Re} (h : ORels w (.slice (some ⟨g, o, none⟩) n cap) l) (hs : w.heap.size ≤ W.heap.size) (hb : W.heap[g]? = w.heap[g]?) : ORels W (.slice (some ⟨g, o, none⟩) n cap) l := by
  obtain ⟨ad, c, e, hm, hc⟩ := h
  cases e
  refine ⟨_, _, rfl, hm, fun h0 => ?_⟩
  obtain ⟨b, o', e, hl, hcs⟩ := hc h0
  cases e
  have hk : ∀ p, W.cell? ⟨g, p, none⟩ = w.cell? ⟨g, p, none⟩ := fun p => World.cell?_of_block (w := w) hb
  exact ⟨_, _, rfl, Nat.lt_of_lt_of_le hl hs, fun i hi => ⟨(hk _).trans (hcs i hi).1, (hk _).trans (hcs i hi).2.1, (hk _).trans (hcs i hi).2.2.1, (hk _).trans (hcs i hi).2.2.2⟩⟩

/-- The blocks that came between two worlds stand in a third one. -/
def Since (w w' W : World) : Prop := w'.heap.size ≤ W.heap.size ∧ ∀ b, w.heap.size ≤ b → b < w'.heap.size → W.heap[b]? = w'.heap[b]?

theorem ownB_let (l : List UInt8) (v : Value) (w : World) (hv : OBytes w v l) (hn : l.length ≤ 140737488355328) :
    Calls Try.prog 19 #[v] w fun e w' => ∃ g, e = .returned (.slice (some ⟨g, 0, none⟩) l.length l.length) ∧ Below w.heap.size w w' ∧ Hid (∀ W, Since w w' W → OBytes W (.slice (some ⟨g, 0, none⟩) l.length l.length) l) :=
  (ownB_any l v w hv hn).mono fun _ _ h => ⟨_, h.1, h.2.1, fun _ hW => h.2.2.1.moved hW.1 (hW.2 _ (Nat.le_refl _) h.2.2.2)⟩
theorem ownS_let (l : List Sy) (v : Value) (w : World) (hv : OSyms w v l) (hn : l.length * 24 ≤ 140737488355328) :
    Calls Try.prog 20 #[v] w fun e w' => ∃ g, e = .returned (.slice (some ⟨g, 0, none⟩) l.length l.length) ∧ Below w.heap.size w w' ∧ Hid (∀ W, Since w w' W → OSyms W (.slice (some ⟨g, 0, none⟩) l.length l.length) l) :=
  (ownS_any l v w hv hn).mono fun _ _ h => ⟨_, h.1, h.2.1, fun _ hW => h.2.2.1.moved hW.1 (hW.2 _ (Nat.le_refl _) h.2.2.2)⟩
theorem ownR_let (l : List Re) (v : Value) (w : World) (hv : ORels w v l) (hn : l.length * 40 ≤ 140737488355328) :
    Calls Try.prog 21 #[v] w fun e w' => ∃ g, e = .returned (.slice (some ⟨g, 0, none⟩) l.length l.length) ∧ Below w.heap.size w w' ∧ Hid (∀ W, Since w w' W → ORels W (.slice (some ⟨g, 0, none⟩) l.length l.length) l) :=
  (ownR_any l v w hv hn).mono fun _ _ h => ⟨_, h.1, h.2.1, fun _ hW => h.2.2.1.moved hW.1 (hW.2 _ (Nat.le_refl _) h.2.2.2)⟩

/-- What is kept while an object is built: the box of the object that came in, and all that was. -/
def objBox (w x : World) (N : Nat) (a b c : Value) : Prop := (N < x.heap.size ∧ N + 1 < x.heap.size) ∧ x.cell? ⟨N, 0, none⟩ = some a ∧ x.cell? ⟨N, 1, none⟩ = some b ∧ x.cell? ⟨N, 2, none⟩ = some c ∧ Below w.heap.size w x
theorem keepO {w x y : World} {N : Nat} {a b c : Value} (hb : Below x.heap.size x y) (h : objBox w x N a b c) : objBox w y N a b c := by
  obtain ⟨⟨h0, h0'⟩, h1, h2, h3, h4⟩ := h
  exact ⟨⟨Nat.lt_of_lt_of_le h0 hb.size, Nat.lt_of_lt_of_le h0' hb.size⟩, (hb.cell (by exact h0)).trans h1, (hb.cell (by exact h0)).trans h2, (hb.cell (by exact h0)).trans h3, h4.trans (hb.mono h4.size)⟩
theorem setO {w x : World} {N : Nat} {a b c d e f : Value} (hN : w.heap.size ≤ N + 1) (h : objBox w x N a b c) : objBox w (((x.setCell ⟨N + 1, 0, none⟩ d).setCell ⟨N + 1, 1, none⟩ e).setCell ⟨N + 1, 2, none⟩ f) N a b c := by
  obtain ⟨⟨h0, h0'⟩, h1, h2, h3, h4⟩ := h
  have hne : ∀ o p, (⟨N, o, none⟩ : Addr) ≠ ⟨N + 1, p, none⟩ := fun o p e => by have := congrArg Addr.block e; simp at this
  have hc : ∀ o, (((x.setCell ⟨N + 1, 0, none⟩ d).setCell ⟨N + 1, 1, none⟩ e).setCell ⟨N + 1, 2, none⟩ f).cell? ⟨N, o, none⟩ = x.cell? ⟨N, o, none⟩ := fun o => by
    rw [World.cell?_setCell_other _ _ _ _ (Ne.symm (hne _ _)), World.cell?_setCell_other _ _ _ _ (Ne.symm (hne _ _)), World.cell?_setCell_other _ _ _ _ (Ne.symm (hne _ _))]
  exact ⟨⟨by simpa using h0, by simpa using h0'⟩, (hc _).trans h1, (hc _).trans h2, (hc _).trans h3, ((h4.setCell hN _).setCell hN _).setCell hN _⟩
/-- The box of the answer. -/
def outBox (x : World) (M : Nat) (a b c : Value) : Prop := M < x.heap.size ∧ x.cell? ⟨M, 0, none⟩ = some a ∧ x.cell? ⟨M, 1, none⟩ = some b ∧ x.cell? ⟨M, 2, none⟩ = some c ∧ x.frozen? ⟨M, 0, none⟩ = false ∧ x.frozen? ⟨M, 1, none⟩ = false ∧ x.frozen? ⟨M, 2, none⟩ = false
theorem outBox.keep {x y : World} {M : Nat} {a b c : Value} (h : outBox x M a b c) (hb : Below x.heap.size x y) : outBox y M a b c := by
  obtain ⟨h0, h1, h2, h3, h4, h5, h6⟩ := h
  have f1 : ∀ o, y.frozen? ⟨M, o, none⟩ = x.frozen? ⟨M, o, none⟩ := fun o => World.frozen?_of_block (w := x) (hb.block M h0)
  exact ⟨Nat.lt_of_lt_of_le h0 hb.size, (hb.cell (by exact h0)).trans h1, (hb.cell (by exact h0)).trans h2, (hb.cell (by exact h0)).trans h3, (f1 0).trans h4, (f1 1).trans h5, (f1 2).trans h6⟩
theorem outBox_new (w : World) (a b c : Value) (t : TypeId) : outBox (w.alloc (.cells #[a, b, c] t)) w.heap.size a b c := by
  have e0 := heap_alloc_new w (.cells #[a, b, c] t)
  refine ⟨by simp, ?_, ?_, ?_, ?_, ?_, ?_⟩
  all_goals first | (unfold World.cell?; simp only [e0]; rfl) | (unfold World.frozen?; simp only [e0]; rfl)
theorem outBox_start (w : World) (a b c d e f : Value) (t u : TypeId) : outBox ((w.alloc (.cells #[a, b, c] t)).alloc (.cells #[d, e, f] u)).drew (w.heap.size + 1) d e f := by
  have h := (outBox_new (w.alloc (.cells #[a, b, c] t)) d e f u).keep (Below.refl _ _).drew
  simpa using h
theorem objBox_start (w : World) (a b c d e f : Value) (t u : TypeId) : objBox w ((w.alloc (.cells #[a, b, c] t)).alloc (.cells #[d, e, f] u)).drew w.heap.size a b c := by
  have h := outBox_new w a b c t
  have h1 : Below (w.alloc (.cells #[a, b, c] t)).heap.size (w.alloc (.cells #[a, b, c] t)) ((w.alloc (.cells #[a, b, c] t)).alloc (.cells #[d, e, f] u)).drew := (oalloc _ _).drew
  have h2 := h.keep h1
  exact ⟨⟨h2.1, by simp⟩, h2.2.1, h2.2.2.1, h2.2.2.2.1, ((oalloc _ _).alloc (by simp) _).drew⟩

set_option maxHeartbeats 4000000 in
theorem own_far (o : Ob) (cv sv rv : Value) (w : World) (hC : OBytes w cv o.code) (hS : OSyms w sv o.syms) (hR : ORels w rv o.rels) (h1 : o.code.length ≤ 140737488355328) (h2 : o.syms.length * 24 ≤ 140737488355328) (h3 : o.rels.length * 40 ≤ 140737488355328) :
    Calls Try.prog 9 #[obV cv sv rv] w fun e w' => ∃ g1 g2 g3, e = .returned (obV (.slice (some ⟨g1, 0, none⟩) o.code.length o.code.length) (.slice (some ⟨g2, 0, none⟩) o.syms.length o.syms.length) (.slice (some ⟨g3, 0, none⟩) o.rels.length o.rels.length)) ∧ Below w.heap.size w w' ∧
      Hid (∀ W, Since w w' W → OBytes W (.slice (some ⟨g1, 0, none⟩) o.code.length o.code.length) o.code ∧ OSyms W (.slice (some ⟨g2, 0, none⟩) o.syms.length o.syms.length) o.syms ∧ ORels W (.slice (some ⟨g3, 0, none⟩) o.rels.length o.rels.length) o.rels) := by
  have KC := Lib.hid (fun W (h : Below w.heap.size w W) => ownB_let o.code cv W (hC.below h (Nat.le_refl _)) h1)
  have KS := Lib.hid (fun W (h : Below w.heap.size w W) => ownS_let o.syms sv W (hS.below h (Nat.le_refl _)) h2)
  have KR := Lib.hid (fun W (h : Below w.heap.size w W) => ownR_let o.rels rv W (hR.below h (Nat.le_refl _)) h3)
  obtain ⟨cad, ccap, rfl, hcm, z1⟩ := hC
  obtain ⟨sad, scap, rfl, hsm, z2⟩ := hS
  obtain ⟨rad, rcap, rfl, hrm, z3⟩ := hR
  clear z1 z2 z3 hcm hsm hrm h1 h2 h3
  unfold obV
  go_enter Try.func9, Try.ntmps9
  go_wp2_with fail
  go_region_held3 (fun w' => (w.heap.size < w'.heap.size ∧ w.heap.size + 1 < w'.heap.size) ∧ w'.cell? ⟨w.heap.size, 0, none⟩ = some (.slice cad o.code.length ccap) ∧ w'.cell? ⟨w.heap.size, 1, none⟩ = some (.slice sad o.syms.length scap) ∧ w'.cell? ⟨w.heap.size, 2, none⟩ = some (.slice rad o.rels.length rcap) ∧ Below w.heap.size w w')
    (first | exact setO (Nat.le_succ _) (by assumption) | exact keepO hb3 (by assumption) | exact keepO hb2 (by assumption) | exact keepO hb1 (by assumption) | exact objBox_start _ _ _ _ _ _ _ _ _)
    ((first | (go_at_call 19; refine (KC.out _ ((show objBox w _ w.heap.size _ _ _ from (by assumption)).2.2.2.2)).mono ?_; rintro e w1 ⟨g1, rfl, hb1, HO1⟩; have HX1 := Lib.hid ((outBox_start _ _ _ _ _ _ _ _ _).keep hb1)) | (go_at_call 20; refine (KS.out _ ((show objBox w _ w.heap.size _ _ _ from (by assumption)).2.2.2.2)).mono ?_; rintro e w2 ⟨g2, rfl, hb2, HO2⟩; have HX2 := Lib.hid (HX1.out.keep hb2)) | (go_at_call 21; refine (KR.out _ ((show objBox w _ w.heap.size _ _ _ from (by assumption)).2.2.2.2)).mono ?_; rintro e w3 ⟨g3, rfl, hb3, HO3⟩; obtain ⟨x0, x1, x2, x3, x4, x5, x6⟩ := HX2.out.keep hb3)))
  have HS1 : Hid (∀ W, w3.heap.size ≤ W.heap.size → (∀ b, w.heap.size + 2 ≤ b → b < w3.heap.size → W.heap[b]? = w3.heap[b]?) → OBytes W (.slice (some ⟨g1, 0, none⟩) o.code.length o.code.length) o.code ∧ OSyms W (.slice (some ⟨g2, 0, none⟩) o.syms.length o.syms.length) o.syms ∧ ORels W (.slice (some ⟨g3, 0, none⟩) o.rels.length o.rels.length) o.rels) := fun W hs hk => by
    have z1 := hb1.size
    have z2 := hb2.size
    have z3 := hb3.size
    simp at z1
    refine ⟨HO1.out W ⟨by omega, fun b h1 h2 => ?_⟩, HO2.out W ⟨by omega, fun b h1 h2 => ?_⟩, HO3.out W ⟨hs, fun b h1 h2 => hk b (by omega) h2⟩⟩
    · simp at h1
      rw [hk b (by omega) (by omega), hb3.block b (by omega), hb2.block b h2]
    · rw [hk b (by omega) (by omega), hb3.block b h2]
  rename_i hH
  have HB := Lib.hid hH.2.2.2.2
  clear hH HO1 HO2 HO3 HX1 HX2 hb1 hb2 hb3 KC KS KR
  go_wp2
  refine bodyPost_ret (v := .agg #[.slice (some ⟨g1, 0, none⟩) o.code.length o.code.length, .slice (some ⟨g2, 0, none⟩) o.syms.length o.syms.length, .slice (some ⟨g3, 0, none⟩) o.rels.length o.rels.length]) (by simp [results, Try.results9, go_sem, x1, x2, x3]) rfl ⟨_, _, _, rfl, HB.out, ?_⟩
  exact fun W hW => HS1.out W (by have := hW.1; simp at this; omega) (fun b h1 h2 => by
    rw [hW.2 b (by omega) (by simpa using h2), Below.heap_setCell _ _ _ _ (by show b ≠ w.heap.size + 1; omega), Below.heap_setCell _ _ _ _ (by show b ≠ w.heap.size + 1; omega), Below.heap_setCell _ _ _ _ (by show b ≠ w.heap.size + 1; omega)])

theorem own_any (o : Ob) (cv sv rv : Value) (w : World) (hC : OBytes w cv o.code) (hS : OSyms w sv o.syms) (hR : ORels w rv o.rels) (h1 : o.code.length ≤ 140737488355328) (h2 : o.syms.length * 24 ≤ 140737488355328) (h3 : o.rels.length * 40 ≤ 140737488355328) :
    Calls Try.prog 9 #[obV cv sv rv] w fun e w' => ∃ c s r, e = .returned (obV c s r) ∧ Below w.heap.size w w' ∧ OBytes w' c o.code ∧ OSyms w' s o.syms ∧ ORels w' r o.rels :=
  (own_far o cv sv rv w hC hS hR h1 h2 h3).mono fun _ w' h => by
    obtain ⟨g1, g2, g3, he, hb, hx⟩ := h
    exact ⟨_, _, _, he, hb, hx.out w' ⟨Nat.le_refl _, fun _ _ _ => rfl⟩⟩

end Go.Proofs.Ytobdcnpifbnjaac
