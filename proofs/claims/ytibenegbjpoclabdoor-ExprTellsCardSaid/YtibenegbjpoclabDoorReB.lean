/- The contract of the document's Prime. -/
import Derived.Test.YtibenegbjpoclabDoorReA
namespace Go.Proofs.YtibenegbjpoclabDoor
open Go.RowKit

/-- The document's reader with no fault. -/
def Cl (w : World) (Q : Nat) (ts : List Tok) (c : Nat) : Prop := PRd w Q (Q + 1) ts c [] ∧ w.cell? ⟨Q, 2, none⟩ = some (.slice none 0 0)
theorem Cl.to {w : World} {Q : Nat} {ts : List Tok} {c : Nat} (h : Cl w Q ts c) {M : Nat} (hM : Q < M) : PRd w Q M ts c [] := h.1.clean hM h.2
theorem Cl.keep {w w' : World} {Q : Nat} {ts : List Tok} {c : Nat} (h : Cl w Q ts c) (hs : w.heap.size ≤ w'.heap.size) (hb : ∀ b, b ≤ Q → w'.heap[b]? = w.heap[b]?) : Cl w' Q ts c := by
  have h2 : w'.cell? ⟨Q, 2, none⟩ = some (.slice none 0 0) := by rw [World.cell?_of_block (w := w) (hb Q (Nat.le_refl _))]; exact h.2
  refine ⟨?_, h2⟩
  have h1 := h.to (M := w.heap.size) h.1.lt
  exact (h1.keep (M := Q + 1) h.1.lt (Nat.lt_succ_self _) hs hb (fun b hb1 hb2 => absurd hb1 (by omega))).clean (Nat.lt_succ_self _) h2
theorem Cl.below {w w' : World} {Q : Nat} {ts : List Tok} {c : Nat} (h : Cl w Q ts c) (hb : Below w.heap.size w w') : Cl w' Q ts c :=
  h.keep hb.size fun b hl => hb.block b (by have := h.1.lt; omega)
theorem Cl.alloc {w : World} {Q : Nat} {ts : List Tok} {c : Nat} (h : Cl w Q ts c) (o : Obj) : Cl (w.alloc o) Q ts c := h.below ((Below.refl _ _).alloc (Nat.le_refl _) _)
theorem Cl.set {w : World} {Q : Nat} {ts : List Tok} {c : Nat} (h : Cl w Q ts c) (c' : Nat) (hc : c' ≤ ts.length) : Cl (w.setCell ⟨Q, 1, none⟩ (.int .i64 c')) Q ts c' :=
  ⟨h.1.set c' hc, by rw [off_other _ _ _ (by decide)]; exact h.2⟩
theorem Cl.put4 {w : World} {Q R : Nat} {a b c d : Value} {ts : List Tok} {n : Nat} (h : Cl w Q ts n) (hQ : Q < R) : Cl ((((w.setCell ⟨R, 0, none⟩ a).setCell ⟨R, 1, none⟩ b).setCell ⟨R, 2, none⟩ c).setCell ⟨R, 3, none⟩ d) Q ts n :=
  h.keep (by simp) fun k hk => by rw [Below.heap_setCell _ _ _ _ (by show k ≠ R; omega), Below.heap_setCell _ _ _ _ (by show k ≠ R; omega), Below.heap_setCell _ _ _ _ (by show k ≠ R; omega), Below.heap_setCell _ _ _ _ (by show k ≠ R; omega)]

/-- What stands behind an answer, N: where new blocks begin. -/
def RRest (w' : World) (Q N : Nat) (ts : List Tok) (c deep : Nat) (r : Except Int (Ex × List Tok)) (a b : Int) (s : ByteArray) (ad : Option Addr) (n m : Nat) : Prop := match r with
  | .ok (x, l) => (a = x.kind ∧ b = x.n ∧ s = ⟨x.name.toArray⟩ ∧ n = x.kids.length) ∧ KR w' (fun k => N ≤ k) (.slice ad n m) x.kids ∧ ∃ c', Cl w' Q ts c' ∧ l = ts.drop c' ∧ c < c'
  | .error y => ∃ c' es, PRd w' Q N ts c' (y :: es) ∧ es.length + 1 + deep ≤ 8

def RAns (w' : World) (Q N : Nat) (ts : List Tok) (c deep : Nat) (r : Except Int (Ex × List Tok)) (e : Ending) : Prop :=
  ∃ (a b : Int) (s : ByteArray) (ad : Option Addr) (n m : Nat), e = .returned (.agg #[.int .i64 a, .int .i64 b, .string s, .slice ad n m]) ∧ RRest w' Q N ts c deep r a b s ad n m

def PrimeOK (Q : Nat) (ts : List Tok) (c : Nat) : Prop := ∀ (deep : Nat) (w : World), deep ≤ 7 → Cl w Q ts c →
  Calls Tryd.prog 34 #[.pointer (some ⟨Q, 0, none⟩), .int .i64 deep] w fun e w' => (∃ r, Pr deep (ts.drop c) r ∧ RAns w' Q w.heap.size ts c deep r e) ∧ w.grownBy w' (some Q)
def ClimbOK (Q : Nat) (ts : List Tok) (c : Nat) : Prop := ∀ (least deep : Nat) (w : World), deep ≤ 7 → 1 ≤ least → least ≤ 6 → Cl w Q ts c →
  Calls Tryd.prog 16 #[.pointer (some ⟨Q, 0, none⟩), .int .i64 least, .int .i64 deep] w fun e w' => (∃ r, Lv least deep (ts.drop c) r ∧ RAns w' Q w.heap.size ts c deep r e) ∧ w.grownBy w' (some Q)

theorem gq_grown {Q N : Nat} {w w1 w2 : World} (h : w.grownBy w1 (some Q)) (g : GQ Q N w1 w2) (hN : w.heap.size ≤ N) : w.grownBy w2 (some Q) :=
  ⟨g.os.trans h.os, g.tape.trans h.tape, g.output.trans h.output, Nat.le_trans h.size g.size, fun k hk hne => (g.block k (by omega) (fun e => hne (by rw [e]))).trans (h.block k hk hne)⟩
theorem Var4.gq {w w' : World} {R Q N : Nat} {a b c d : Value} (h : Var4 w R a b c d) (hg : GQ Q N w w') (hR : R < N) (hne : R ≠ Q) : Var4 w' R a b c d := h.keep (hg.block R hR hne)

/-- A fault that ends Prime at once. -/
theorem rans_bad {w' : World} {Q N R : Nat} {ts : List Tok} {c c0 deep : Nat} {y : Int} (h : PRd w' Q (R + 1) ts c ([] ++ [y])) (hQ : Q < R) (hd : deep ≤ 7) (hN : N = R) :
    RAns ((((w'.setCell ⟨R, 0, none⟩ (.int .i64 0)).setCell ⟨R, 1, none⟩ (.int .i64 0)).setCell ⟨R, 2, none⟩ (.string ⟨#[]⟩)).setCell ⟨R, 3, none⟩ (.slice none 0 0)) Q N ts c0 deep (.error y) (.returned (.agg #[.int .i64 0, .int .i64 0, .string ⟨#[]⟩, .slice none 0 0])) := by
  subst hN
  exact ⟨_, _, _, _, _, _, rfl, c, [], (h.put4 hQ (Nat.lt_succ_self _)).low_to (Nat.le_succ _) hQ, by simp; omega⟩

set_option maxHeartbeats 2000000 in
theorem prime_deep (Q : Nat) (ts : List Tok) (c deep : Nat) (w : World) (hd : deep ≤ 7) (hC : Cl w Q ts c) (h6 : (6 : Int) < deep) :
    Calls Tryd.prog 34 #[.pointer (some ⟨Q, 0, none⟩), .int .i64 deep] w fun e w' => (∃ r, Pr deep (ts.drop c) r ∧ RAns w' Q w.heap.size ts c deep r e) ∧ w.grownBy w' (some Q) := by
  have hlt := hC.1.lt
  have HP : Hid (Pr deep (ts.drop c) (.error 10)) := Pr.deep (by omega)
  have hbad := bad_any 10 Q (w.heap.size + 1) ts c [] (w.alloc (.cells #[.int .i64 0, .int .i64 0, .string ⟨#[]⟩, .slice none 0 0] 25)) ((hC.alloc _).to (by omega)) (by simp) (by simp)
  go_enter Tryd.func34, Tryd.ntmps34
  go_wp2_with fail
  refine hbad.mono ?_
  rintro e w1 ⟨rfl, hR, hg⟩
  obtain ⟨⟨x0, x1, x2, x3⟩, f0, f1, f2, f3⟩ := (var4_new w (.int .i64 0) (.int .i64 0) (.string ⟨#[]⟩) (.slice none 0 0) 25).gq hg (Nat.lt_succ_self _) (by omega)
  have HG : Hid (w.grownBy w1 (some Q)) := gq_grown (galloc _ _ _) hg (by omega)
  have HR : Hid (PRd w1 Q (w.heap.size + 1) ts c ([] ++ [10])) := hR
  clear hg hR hbad
  unfold exZ
  go_wp2
  exact bodyPost_ret (v := .agg #[.int .i64 0, .int .i64 0, .string ⟨#[]⟩, .slice none 0 0]) (by simp [results, Tryd.results34, go_sem, x0, x1, x2, x3]) rfl
    ⟨⟨_, HP.out, rans_bad HR.out hlt hd rfl⟩, gput4 HG.out (Nat.le_refl _)⟩

end Go.Proofs.YtibenegbjpoclabDoor
