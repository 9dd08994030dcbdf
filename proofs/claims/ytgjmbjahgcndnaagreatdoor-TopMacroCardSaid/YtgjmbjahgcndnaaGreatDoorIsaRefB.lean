/- Contracts of the document's own Get and Put. -/
import Derived.Test.YtgjmbjahgcndnaaGreatDoorPut4
import Derived.Deep.AppendLies
import Derived.Deep.AppendSrc
import Derived.Laws.BytesArg
namespace Go.Proofs.YtgjmbjahgcndnaaGreatDoor.Isa
open Go.RowKit

theorem info5' : ∃ i, Tryz.prog.info? 5 = some i ∧ i.zero = some (.int .u8 0) ∧ i.size = 1 ∧ i.bytes = 1 := by
  have h := info5
  obtain ⟨i, hi, hh⟩ := Option.map_eq_some_iff.1 h
  simp only [Prod.mk.injEq] at hh
  exact ⟨i, hi, hh.1, hh.2.1, hh.2.2⟩

/-- Nothing is appended to nothing. -/
theorem append_nothing (ad : Option Addr) (cap b : Nat) (ty : TypeId) (w : World) : (Builtin.append_ #[31, 31] ty #[.slice (some ⟨b, 0, none⟩) 0 0, .slice ad 0 cap]).run Tryz.prog w = .ok (.slice (some ⟨b, 0, none⟩) 0 0) w := by
  obtain ⟨i, hi, hz, hs, hb⟩ := info5'
  cases ad with
  | none =>
    have := run_append_room_src (P := Tryz.prog) w 31 31 ty 5 i Tryz.underlying31 hi b 0 0 0 (.slice none 0 cap) 0 [] (Src.ofNil w Tryz.underlying31 cap) (by omega) (by simp) (by simp)
    simpa [World.setCells] using this
  | some a =>
    have := run_append_room_src (P := Tryz.prog) w 31 31 ty 5 i Tryz.underlying31 hi b 0 0 0 (.slice (some a) 0 cap) 0 [] (Src.ofSlice w Tryz.underlying31 a 0 cap [] (by simp) (by simp) (by simp)) (by omega) (by simp) (by simp)
    simpa [World.setCells] using this

theorem wpList_app0 {w : World} {ops : Array Oper} {rest : List Oper} {o : Oper} {a : Act} {Q : Exit → Act → World → Prop} (hgd : o.guard = none) (s x : Operand)
    (ho : o.op = .call { callee := .builtin .append, args := #[s, x], argTypes := #[31, 31] }) (b cap : Nat) (ad : Option Addr) (hs : a.eval s = .slice (some ⟨b, 0, none⟩) 0 0) (hx : a.eval x = .slice ad 0 cap)
    (h : wpList Tryz.prog ops Q rest (a.put o.dst (.slice (some ⟨b, 0, none⟩) 0 0)) w) : wpList Tryz.prog ops Q (o :: rest) a w := by
  refine wpList_plain hgd fun K hK => ?_
  have hrun := append_nothing ad cap b o.type w
  unfold Oper.wp
  simp [execOp, ho, resolve, invoke, builtin, hs, hx, hrun, Result.andThen]
  exact hK _ _ h

/-- The byte at place i behind k steps of the document's Put. -/
def putK (bs : Nat → Int) (a size n : Int) (k i : Nat) : Int := if 0 ≤ a + size - 1 - (i : Int) ∧ a + size - 1 - (i : Int) < (k : Int) then putAt bs a size n i else bs i

theorem putK_step {wr : World} {g len k : Nat} {bs : Nat → Int} {a size n : Int} {p : Nat} (hp : (p : Int) = a + size - 1 - k) (hk : (k : Int) < size) (hlt : p < len)
    (hc : ∀ i, i < len → wr.cell? ⟨g, i, none⟩ = some (.int .u8 (putK bs a size n k i))) :
    ∀ i, i < len → (wr.setCell ⟨g, p, none⟩ (.int .u8 (n / 2 ^ (8 * (k : Int)).toNat % 256))).cell? ⟨g, i, none⟩ = some (.int .u8 (putK bs a size n (k + 1) i)) := by
  intro i hi
  by_cases h : i = p
  · subst h
    rw [World.cell?_setCell_same _ _ _ (hc i hlt)]
    unfold putK
    rw [if_pos (by omega)]
    unfold putAt
    rw [if_pos (by omega), show size - 1 - ((i : Int) - a) = k by omega]
  · rw [World.cell?_setCell_other _ _ _ _ (by intro e; cases e; exact h rfl), hc i hi]
    unfold putK
    by_cases h2 : 0 ≤ a + size - 1 - (i : Int) ∧ a + size - 1 - (i : Int) < (k : Int)
    · rw [if_pos h2, if_pos (by omega)]
    · rw [if_neg h2, if_neg (by omega)]

theorem putK_skip {wr : World} {g len k : Nat} {bs : Nat → Int} {a size n : Int} (ho : ¬ (0 ≤ a + size - 1 - (k : Int) ∧ a + size - 1 - (k : Int) < (len : Int)))
    (hc : ∀ i, i < len → wr.cell? ⟨g, i, none⟩ = some (.int .u8 (putK bs a size n k i))) :
    ∀ i, i < len → wr.cell? ⟨g, i, none⟩ = some (.int .u8 (putK bs a size n (k + 1) i)) := by
  intro i hi
  rw [hc i hi]
  unfold putK
  by_cases h2 : 0 ≤ a + size - 1 - (i : Int) ∧ a + size - 1 - (i : Int) < (k : Int)
  · rw [if_pos h2, if_pos (by omega)]
  · rw [if_neg h2, if_neg (by omega)]

theorem putK_end (bs : Nat → Int) (a size n : Int) (k i : Nat) (hk : (k : Int) = size) : putK bs a size n k i = putAt bs a size n i := by
  unfold putK
  split
  · rfl
  · unfold putAt
    rw [if_neg (by omega)]

theorem own_cells {w1 : World} {B g len c1 : Nat} {bs : Nat → Int} {a size n : Int} (h : w1.ownsRow B 5 1 (.slice (some ⟨g, 0, none⟩) len c1) len (rowOf bs len)) :
    (∀ i, i < len → w1.cell? ⟨g, i, none⟩ = some (.int .u8 (putK bs a size n 0 i))) ∧ ∀ i, w1.frozen? ⟨g, i, none⟩ = false := by
  obtain ⟨_, h⟩ := h
  rcases h with ⟨h, _⟩ | ⟨g', cap', cur, hv, _, hh, _, _, _, htk⟩
  · simp at h
  · simp only [Value.slice.injEq, Option.some.injEq, Addr.mk.injEq, and_true, true_and] at hv
    obtain ⟨rfl, _⟩ := hv
    refine ⟨fun i hi => ?_, fun i => by simp [World.frozen?, hh]⟩
    have h2 := congrArg (fun l => l[i]?) htk
    simp only [Nat.mul_one, List.getElem?_take_of_lt hi] at h2
    have h3 : (rowOf bs len)[i]? = some (.int .u8 (bs i)) := by simp [rowOf, hi]
    rw [h3] at h2
    have h4 : putK bs a size n 0 i = bs i := by unfold putK; rw [if_neg (by omega)]
    rw [h4]
    simpa [World.cell?, hh] using h2

/-- Bytes as a text. -/
def strOf (f : Nat → Int) (len : Nat) : ByteArray := strOfNums ((List.range len).map f)
theorem conv_any (w : World) (g len cap : Nat) (f : Nat → Int) (h : ∀ i, i < len → w.cell? ⟨g, i, none⟩ = some (.int .u8 (f i))) : (convert 31 9 (.slice (some ⟨g, 0, none⟩) len cap)).run Tryz.prog w = .ok (.string (strOf f len)) w := by
  refine run_convert_bytes_arg w 31 5 Tryz.underlying31 Tryz.underlying5 g 0 len cap ((List.range len).map f) (by simp) (fun i hi => ?_) 9 Tryz.underlying9
  rw [Nat.zero_add, h i hi]
  simp [hi]

end Go.Proofs.YtgjmbjahgcndnaaGreatDoor.Isa
