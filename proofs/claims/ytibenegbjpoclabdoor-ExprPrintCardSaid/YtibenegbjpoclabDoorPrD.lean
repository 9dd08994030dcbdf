/- The contract of Print's inner function: numbers and names. -/
import Derived.Test.YtibenegbjpoclabDoorPrB
import Derived.Test.YtibenegbjpoclabDoorPrC
import Derived.Test.YtibenegbjpoclabDoorEvD
import Derived.Shelf.Strings.BuilderK
namespace Go.Proofs.YtibenegbjpoclabDoor
open Go.RowKit

theorem tab_below {B : Nat} {w w' : World} (h : Lib.TabIs Tryd.prog w "internal/strconv.uint64pow10" .u64 Lib.pow10Tab) (hb : Below B w w') (hB : 1 < B) : Lib.TabIs Tryd.prog w' "internal/strconv.uint64pow10" .u64 Lib.pow10Tab := by
  have hg : Tryd.prog.globalNamed "internal/strconv.uint64pow10" = some 1 := by kernel_rfl
  unfold Lib.TabIs World.var? at *
  simp only [hg, Option.bind_some] at h ⊢
  rw [hb.block 1 hB]
  exact h

/-- The function value that Print makes. -/
def putV (b Q : Nat) : Value := .func (.func 27) #[] #[.pointer (some ⟨b, 0, none⟩), .pointer (some ⟨Q, 0, none⟩)]

/-- What Print keeps: the builder at b holds the text l, the function lies at Q. -/
structure PrM (w : World) (B b Q : Nat) (l : List UInt8) : Prop where
  bld : Lib.IsBuilderF 73 5 B b (Lib.byteCells l) w
  fn : w.heap[Q]? = some (.cells #[putV b Q] 74 (0, 0))
  ne : Q ≠ b
  laid : KLaid w
  tab : Lib.TabIs Tryd.prog w "internal/strconv.uint64pow10" .u64 Lib.pow10Tab
  hB : 1 < B
  le : B ≤ w.heap.size

/-- The world behind a part that writes. -/
structure PrN (B b : Nat) (w w' : World) : Prop where
  bel : Below B w w'
  kept : Lib.OthersKept 5 (some b) w w'

theorem PrN.refl (B b : Nat) (w : World) : PrN B b w w := ⟨Below.refl _ _, Lib.OthersKept.refl _ _ _⟩
theorem PrN.trans {B b : Nat} {w w' w'' : World} (h : PrN B b w w') (k : PrN B b w' w'') : PrN B b w w'' := ⟨h.bel.trans k.bel, h.kept.trans k.kept⟩
theorem PrN.alloc {B b : Nat} {w w' : World} (h : PrN B b w w') (hB : B ≤ w'.heap.size) (o : Obj) : PrN B b w (w'.alloc o) := ⟨h.bel.alloc hB o, h.kept.alloc o⟩
theorem PrN.of_below {B b : Nat} {w w' : World} (hb : Below w.heap.size w w') (hB : B ≤ w.heap.size) : PrN B b w w' :=
  ⟨hb.mono hB, fun k o hk _ _ => by rw [hb.block k (Array.getElem?_eq_some_iff.1 hk).1]; exact hk⟩
theorem PrN.cells {B b : Nat} {w w' : World} (h : PrN B b w w') {k : Nat} {cs : Array Value} {t : TypeId} {fz : Nat × Nat} (hk : w.heap[k]? = some (.cells cs t fz)) (hne : k ≠ b) (ht : t ≠ 5) : w'.heap[k]? = some (.cells cs t fz) :=
  h.kept k _ hk (by simpa using hne) (by intro c f e; injection e with _ e _; exact ht e)

theorem bldF_below {w w' : World} {B b : Nat} {bs : List Value} (h : Lib.IsBuilderF 73 5 B b bs w) (hb : Below w.heap.size w w') : Lib.IsBuilderF 73 5 B b bs w' := by
  have hg : w.grownBy w' none := gbelow none hb (Nat.le_refl _)
  have one : ∀ p, Lib.BuilderAtF 73 5 B b p bs w → Lib.BuilderAtF 73 5 B b p bs w' := by
    rintro p ⟨hB, v, hk, hown, hne⟩
    refine ⟨hB, v, ?_, hown.kept hg ?_, hne⟩
    · rw [hb.block b (Array.getElem?_eq_some_iff.1 hk).1]; exact hk
    · cases v.ownBlock with
      | none => exact Or.inl rfl
      | some _ => exact Or.inr (by simp)
  exact h.elim (fun x => Or.inl (one _ x)) (fun x => Or.inr (one _ x))

theorem PrM.blt {w : World} {B b Q : Nat} {l : List UInt8} (h : PrM w B b Q l) : b < w.heap.size := by
  rcases h.bld with h | h <;> exact h.lt

theorem PrM.next {w w' : World} {B b Q : Nat} {l l' : List UInt8} (h : PrM w B b Q l) (hn : PrN B b w w') (hb : Lib.IsBuilderF 73 5 B b (Lib.byteCells l') w') : PrM w' B b Q l' :=
  ⟨hb, hn.cells h.fn h.ne (by decide), h.ne, h.laid.below hn.bel (Nat.lt_of_succ_lt h.hB), tab_below h.tab hn.bel h.hB, h.hB, Nat.le_trans h.le hn.bel.size⟩

theorem PrM.below {w w' : World} {B b Q : Nat} {l : List UInt8} (h : PrM w B b Q l) (hb : Below w.heap.size w w') : PrM w' B b Q l := h.next (PrN.of_below hb h.le) (bldF_below h.bld hb)

/-- WriteString, of what Print keeps. -/
theorem write_any {w : World} {B b Q : Nat} {l : List UInt8} (h : PrM w B b Q l) (s : List UInt8) (hl : l.length + s.length ≤ 140737488355328) :
    Calls Tryd.prog 28 #[.pointer (some ⟨b, 0, none⟩), .string ⟨s.toArray⟩] w fun e w' => e = .returned (.tuple #[.int .i64 s.length, .nilIface]) ∧ PrM w' B b Q (l ++ s) ∧ PrN B b w w' := by
  refine (Any.Builder_WriteString_k Tryd.lays166 Tryd.Builder_Extra_166 B b (Lib.byteCells l) ⟨s.toArray⟩ w h.bld (by rw [Lib.byteCells_length]; simpa [ByteArray.size] using hl) h.le).mono ?_
  rintro e w' ⟨rfl, hA, hbel, hk⟩
  have hn : PrN B b w w' := ⟨hbel, hk⟩
  refine ⟨rfl, h.next hn (Or.inr ?_), hn⟩
  rw [Lib.byteCells_append]
  exact hA

end Go.Proofs.YtibenegbjpoclabDoor
