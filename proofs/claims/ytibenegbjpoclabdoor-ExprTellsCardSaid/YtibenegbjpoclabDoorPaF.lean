/- What the walks of the parsers want: variables of four cells, what stays. -/
import Derived.Test.YtibenegbjpoclabDoorPaE
namespace Go.Proofs.YtibenegbjpoclabDoor
open Go.RowKit

theorem KR.on {w w' : World} {N M : Nat} {v : Value} {ks : List Ex} (h : KR w (fun b => N ≤ b) v ks) (hM : M ≤ N) (hs : w.heap.size ≤ w'.heap.size) (hc : ∀ b, N ≤ b → b < w.heap.size → w'.heap[b]? = w.heap[b]?) : KR w' (fun b => M ≤ b) v ks :=
  h.keep fun b hb hl => ⟨Nat.le_trans hM hb, Nat.lt_of_lt_of_le hl hs, fun _ => World.cell?_of_block (w := w) (hc b hb hl)⟩
theorem KR.wide {w : World} {N M : Nat} {v : Value} {ks : List Ex} (h : KR w (fun b => N ≤ b) v ks) (hM : M ≤ N) : KR w (fun b => M ≤ b) v ks := h.on hM (Nat.le_refl _) fun _ _ _ => rfl
theorem KR.alloc {w : World} {p : Nat → Prop} {v : Value} {ks : List Ex} (h : KR w p v ks) (o : Obj) : KR (w.alloc o) p v ks := h.under ((Below.refl w.heap.size w).alloc (Nat.le_refl _) o) (Nat.le_refl _)
theorem KR.set {w : World} {N R o : Nat} {u v : Value} {ks : List Ex} (h : KR w (fun b => N ≤ b) v ks) (hR : R < N) : KR (w.setCell ⟨R, o, none⟩ u) (fun b => N ≤ b) v ks :=
  h.on (Nat.le_refl _) (by simp) fun b hb _ => Below.heap_setCell _ _ _ _ (by show b ≠ R; omega)
theorem KR.by {w w' : World} {N B : Nat} {v : Value} {ks : List Ex} (h : KR w (fun b => N ≤ b) v ks) (hg : w.grownBy w' (some B)) (hB : B < N) : KR w' (fun b => N ≤ b) v ks :=
  h.on (Nat.le_refl _) hg.size fun b hb hl => hg.block b hl (by intro e; cases e; omega)
theorem Rdr.put {w : World} {B : Nat} {ts : List Tok} {c R o : Nat} {u : Value} (h : Rdr w B ts c) (hR : B < R) : Rdr (w.setCell ⟨R, o, none⟩ u) B ts c :=
  h.keep (by simp) fun b hb => Below.heap_setCell _ _ _ _ (by show b ≠ R; omega)
theorem gput {w w' : World} {r : Option Nat} {R o : Nat} {u : Value} (h : w.grownBy w' r) (hR : w.heap.size ≤ R) : w.grownBy (w'.setCell ⟨R, o, none⟩ u) r :=
  ⟨h.os, h.tape, h.output, by simpa using h.size, fun k hk hr => (Below.heap_setCell _ _ _ _ (by show k ≠ R; omega)).trans (h.block k hk hr)⟩

theorem pv_five {w : World} {B : Nat} {V : Value} (h : PV w B V 5 V) : ∃ p r s, V = .func (.func 47) #[] #[.pointer (some ⟨p, 0, none⟩), .pointer (some ⟨r, 0, none⟩), .pointer (some ⟨s, 0, none⟩)] := by
  obtain ⟨p, r, s, v', e, _⟩ := h
  exact ⟨p, r, s, e⟩

/-- A variable of four cells. -/
def Var4 (w : World) (R : Nat) (a b c d : Value) : Prop :=
  (w.cell? ⟨R, 0, none⟩ = some a ∧ w.cell? ⟨R, 1, none⟩ = some b ∧ w.cell? ⟨R, 2, none⟩ = some c ∧ w.cell? ⟨R, 3, none⟩ = some d) ∧
  (w.frozen? ⟨R, 0, none⟩ = false ∧ w.frozen? ⟨R, 1, none⟩ = false ∧ w.frozen? ⟨R, 2, none⟩ = false ∧ w.frozen? ⟨R, 3, none⟩ = false)
theorem var4_of {w : World} {R : Nat} {a b c d : Value} {t : TypeId} (h : w.heap[R]? = some (.cells #[a, b, c, d] t (0, 0))) : Var4 w R a b c d := by
  refine ⟨⟨?_, ?_, ?_, ?_⟩, ?_, ?_, ?_, ?_⟩ <;> simp [World.cell?, World.frozen?, h]
theorem var4_new (w : World) (a b c d : Value) (t : TypeId) : Var4 (w.alloc (.cells #[a, b, c, d] t)) w.heap.size a b c d := var4_of (heap_alloc_new w _)
theorem Var4.keep {w w' : World} {R : Nat} {a b c d : Value} (h : Var4 w R a b c d) (hb : w'.heap[R]? = w.heap[R]?) : Var4 w' R a b c d := by
  obtain ⟨⟨h0, h1, h2, h3⟩, f0, f1, f2, f3⟩ := h
  refine ⟨⟨?_, ?_, ?_, ?_⟩, ?_, ?_, ?_, ?_⟩
  · rw [World.cell?_of_block (w := w) hb]; exact h0
  · rw [World.cell?_of_block (w := w) hb]; exact h1
  · rw [World.cell?_of_block (w := w) hb]; exact h2
  · rw [World.cell?_of_block (w := w) hb]; exact h3
  · rw [World.frozen?_of_block (w := w) hb]; exact f0
  · rw [World.frozen?_of_block (w := w) hb]; exact f1
  · rw [World.frozen?_of_block (w := w) hb]; exact f2
  · rw [World.frozen?_of_block (w := w) hb]; exact f3
theorem Var4.by {w w' : World} {R B : Nat} {a b c d : Value} (h : Var4 w R a b c d) (hg : w.grownBy w' (some B)) (hR : R ≠ B) (hl : R < w.heap.size) : Var4 w' R a b c d :=
  h.keep (hg.block R hl (by intro e; cases e; exact hR rfl))

/-- Four cells written. -/
theorem gput4 {w w' : World} {r : Option Nat} {R : Nat} {a b c d : Value} (h : w.grownBy w' r) (hR : w.heap.size ≤ R) : w.grownBy ((((w'.setCell ⟨R, 0, none⟩ a).setCell ⟨R, 1, none⟩ b).setCell ⟨R, 2, none⟩ c).setCell ⟨R, 3, none⟩ d) r :=
  gput (gput (gput (gput h hR) hR) hR) hR
theorem Rdr.put4 {w : World} {B : Nat} {ts : List Tok} {n R : Nat} {a b c d : Value} (h : Rdr w B ts n) (hR : B < R) : Rdr ((((w.setCell ⟨R, 0, none⟩ a).setCell ⟨R, 1, none⟩ b).setCell ⟨R, 2, none⟩ c).setCell ⟨R, 3, none⟩ d) B ts n :=
  (((h.put hR).put hR).put hR).put hR
theorem KR.set4 {w : World} {N R : Nat} {a b c d v : Value} {ks : List Ex} (h : KR w (fun b => N ≤ b) v ks) (hR : R < N) : KR ((((w.setCell ⟨R, 0, none⟩ a).setCell ⟨R, 1, none⟩ b).setCell ⟨R, 2, none⟩ c).setCell ⟨R, 3, none⟩ d) (fun b => N ≤ b) v ks :=
  (((h.set hR).set hR).set hR).set hR
theorem new_at {w : World} {n : Nat} (o : Obj) (h : w.heap.size = n) : (w.alloc o).heap[n]? = some o := h ▸ heap_alloc_new w o

end Go.Proofs.YtibenegbjpoclabDoor
