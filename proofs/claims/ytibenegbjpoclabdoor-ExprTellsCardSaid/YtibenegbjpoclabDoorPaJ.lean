/- The contract of what chain answers: what the loop keeps. -/
import Derived.Test.YtibenegbjpoclabDoorPaI
namespace Go.Proofs.YtibenegbjpoclabDoor
open Go.RowKit

theorem enters_part {w : World} {B : Nat} {V : Value} {m : Nat} {v : Value} (h : PV w B V m v) : ∃ f caps, v = .func (.func f) #[] caps ∧ ∀ args w, (callFunc f args).run Tryd.prog w = .ok (.enter f args) w := by
  cases m with
  | zero => obtain ⟨a1, a2, e, _⟩ := h; exact ⟨_, _, e, enters_of Tryd.func31 (by kernel_rfl) rfl⟩
  | succ m => obtain ⟨p, r, s, v', e, _⟩ := h; exact ⟨_, _, e, enters_of Tryd.func47 (by kernel_rfl) rfl⟩

def cntOf (w : World) (B : Nat) : Nat := match w.cell? ⟨B, 1, none⟩ with
  | some (.int _ n) => n.toNat
  | _ => 0
theorem Rdr.cntOf {w : World} {B : Nat} {ts : List Tok} {c : Nat} (h : Rdr w B ts c) : cntOf w B = c := by
  unfold Go.Proofs.YtibenegbjpoclabDoor.cntOf
  rw [h.cnt]
  simp

theorem KR.setp {w : World} {p : Nat → Prop} {R o : Nat} {u v : Value} {ks : List Ex} (h : KR w p v ks) (hR : ∀ b, p b → b ≠ R) : KR (w.setCell ⟨R, o, none⟩ u) p v ks :=
  h.keep fun b hb hl => ⟨hb, by simpa using hl, fun _ => World.cell?_of_block (w := w) (Below.heap_setCell _ _ _ _ (hR b hb))⟩
theorem KR.set4p {w : World} {p : Nat → Prop} {R : Nat} {a b c d v : Value} {ks : List Ex} (h : KR w p v ks) (hR : ∀ b, p b → b ≠ R) : KR ((((w.setCell ⟨R, 0, none⟩ a).setCell ⟨R, 1, none⟩ b).setCell ⟨R, 2, none⟩ c).setCell ⟨R, 3, none⟩ d) p v ks :=
  (((h.setp hR).setp hR).setp hR).setp hR
theorem KR.byp {w w' : World} {p : Nat → Prop} {B : Nat} {v : Value} {ks : List Ex} (h : KR w p v ks) (hg : w.grownBy w' (some B)) (hB : ∀ b, p b → b ≠ B) : KR w' p v ks :=
  h.keep fun b hb hl => ⟨hb, Nat.lt_of_lt_of_le hl hg.size, fun _ => World.cell?_of_block (w := w) (hg.block b hl (fun e => hB b hb (Option.some.inj e)))⟩
theorem KR.weak {w : World} {p q : Nat → Prop} {v : Value} {ks : List Ex} (h : KR w p v ks) (hp : ∀ b, p b → b < w.heap.size → q b) : KR w q v ks :=
  h.keep fun b hb hl => ⟨hp b hb hl, hl, fun _ => rfl⟩

theorem off_other (w : World) (R : Nat) {o o' : Nat} (v : Value) (h : o ≠ o') : (w.setCell ⟨R, o, none⟩ v).cell? ⟨R, o', none⟩ = w.cell? ⟨R, o', none⟩ :=
  World.cell?_setCell_other _ _ _ _ (by intro e; injection e with _ e; exact h e)
theorem Var4.put4 {w : World} {R : Nat} {a b c d a' b' c' d' : Value} (h : Var4 w R a b c d) : Var4 ((((w.setCell ⟨R, 0, none⟩ a').setCell ⟨R, 1, none⟩ b').setCell ⟨R, 2, none⟩ c').setCell ⟨R, 3, none⟩ d') R a' b' c' d' := by
  obtain ⟨⟨h0, h1, h2, h3⟩, f0, f1, f2, f3⟩ := h
  refine ⟨⟨?_, ?_, ?_, ?_⟩, ?_, ?_, ?_, ?_⟩
  · rw [off_other _ _ _ (by decide), off_other _ _ _ (by decide), off_other _ _ _ (by decide)]
    exact World.cell?_setCell_same _ _ _ h0
  · rw [off_other _ _ _ (by decide), off_other _ _ _ (by decide)]
    exact World.cell?_setCell_same _ _ _ (by rw [off_other _ _ _ (by decide)]; exact h1)
  · rw [off_other _ _ _ (by decide)]
    exact World.cell?_setCell_same _ _ _ (by rw [off_other _ _ _ (by decide), off_other _ _ _ (by decide)]; exact h2)
  · exact World.cell?_setCell_same _ _ _ (by rw [off_other _ _ _ (by decide), off_other _ _ _ (by decide), off_other _ _ _ (by decide)]; exact h3)
  · simpa using f0
  · simpa using f1
  · simpa using f2
  · simpa using f3
theorem Var4.other {w : World} {R E : Nat} {a b c d a' b' c' d' : Value} (h : Var4 w R a b c d) (hne : R ≠ E) : Var4 ((((w.setCell ⟨E, 0, none⟩ a').setCell ⟨E, 1, none⟩ b').setCell ⟨E, 2, none⟩ c').setCell ⟨E, 3, none⟩ d') R a b c d :=
  h.keep (by
    rw [Below.heap_setCell _ _ _ _ (by exact hne), Below.heap_setCell _ _ _ _ (by exact hne), Below.heap_setCell _ _ _ _ (by exact hne), Below.heap_setCell _ _ _ _ (by exact hne)])
theorem Var4.alloc {w : World} {R : Nat} {a b c d : Value} (h : Var4 w R a b c d) (hl : R < w.heap.size) (o : Obj) : Var4 (w.alloc o) R a b c d := h.keep (Below.heap_alloc _ _ _ hl)

theorem strength_kd {s : List UInt8} {n : Nat} (h : (strengthR s).1 = n) (hn : 1 ≤ n) : (strengthR s).2 ≠ 0 := by
  subst h
  unfold strengthR at hn ⊢
  repeat' split
  all_goals first | decide | (simp_all; done)

/-- What the loop of a chain keeps: R the answer's variable, E the expression's. -/
def Ch (w : World) (B R E S deep : Nat) (ts : List Tok) (c : Nat) (er : Value) (wr : World) : Prop :=
  w.grownBy wr (some B) ∧ E < wr.heap.size ∧ Var4 wr R (.int .i64 0) (.int .i64 0) (.string ⟨#[]⟩) (.slice none 0 0) ∧
  ((er = .int .i64 0 ∧ ∃ x ad cap c', Var4 wr E (.int .i64 x.kind) (.int .i64 x.n) (.string ⟨x.name.toArray⟩) (.slice ad x.kids.length cap) ∧ KR wr (fun b => R < b ∧ b ≠ E) (.slice ad x.kids.length cap) x.kids ∧
      Rdr wr B ts c' ∧ c < c' ∧ (∀ r, Mo S deep x (ts.drop c') r → Lv S deep (ts.drop c) r) ∧ (strengthR (signOf (ts.drop c'))).1 < S + 1) ∨
   (∃ y c', er = .int .i64 y ∧ y ≠ 0 ∧ Lv S deep (ts.drop c) (.error y) ∧ Rdr wr B ts c'))

def chM (ts : List Tok) (B : Nat) (er : Value) (wr : World) : Nat := if intOf er = 0 then ts.length - cntOf wr B + 1 else 0

end Go.Proofs.YtibenegbjpoclabDoor
