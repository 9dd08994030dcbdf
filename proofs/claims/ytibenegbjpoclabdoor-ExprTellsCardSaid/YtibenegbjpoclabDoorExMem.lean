/- Expressions, values and names' numbers in memory. -/
import Derived.Test.YtibenegbjpoclabDoorExSpec
namespace Go.Proofs.YtibenegbjpoclabDoor
open Go.RowKit

def Ex.kind : Ex → Int | .mk k _ _ _ => k
def Ex.n : Ex → Int | .mk _ n _ _ => n
def Ex.name : Ex → List UInt8 | .mk _ _ t _ => t
def Ex.kids : Ex → List Ex | .mk _ _ _ ks => ks
theorem Ex.eta (e : Ex) : e = .mk e.kind e.n e.name e.kids := by cases e; rfl

/-- An expression's value, kv its Kids. -/
def exV (e : Ex) (kv : Value) : Value := .agg #[.int .i64 e.kind, .int .i64 e.n, .string ⟨e.name.toArray⟩, kv]

/-- The slice reads as those expressions, all in blocks of which p holds. -/
inductive KR (w : World) (p : Nat → Prop) : Value → List Ex → Prop where
  | mk (ad : Option Addr) (cap : Nat) (ks : List Ex) (vi : Nat → Value) (hm : ks.length ≤ 2513169434843)
      (hc : 0 < ks.length → ∃ b o, ad = some ⟨b, o, none⟩ ∧ p b ∧ b < w.heap.size ∧ ∀ i (h : i < ks.length),
        w.cell? ⟨b, o + i * 4, none⟩ = some (.int .i64 ks[i].kind) ∧ w.cell? ⟨b, o + i * 4 + 1, none⟩ = some (.int .i64 ks[i].n) ∧ w.cell? ⟨b, o + i * 4 + 2, none⟩ = some (.string ⟨ks[i].name.toArray⟩) ∧ w.cell? ⟨b, o + i * 4 + 3, none⟩ = some (vi i))
      (hk : ∀ i (h : i < ks.length), KR w p (vi i) ks[i].kids) : KR w p (.slice ad ks.length cap) ks

theorem KR.keep {w w' : World} {p q : Nat → Prop} {v : Value} {ks : List Ex} (h : KR w p v ks) (hs : ∀ b, p b → b < w.heap.size → q b ∧ b < w'.heap.size ∧ ∀ o, w'.cell? ⟨b, o, none⟩ = w.cell? ⟨b, o, none⟩) : KR w' q v ks := by
  induction h with
  | mk ad cap ks vi hm hc hk ih =>
    refine .mk ad cap ks vi hm (fun h0 => ?_) ih
    obtain ⟨b, o, e, hp, hb, hcs⟩ := hc h0
    obtain ⟨s1, s2, s3⟩ := hs b hp hb
    refine ⟨b, o, e, s1, s2, fun i hi => ?_⟩
    obtain ⟨c0, c1, c2, c3⟩ := hcs i hi
    rw [s3, s3, s3, s3]
    exact ⟨c0, c1, c2, c3⟩

theorem KR.under {w w' : World} {p : Nat → Prop} {B : Nat} {v : Value} {ks : List Ex} (h : KR w p v ks) (hb : Below B w w') (hB : w.heap.size ≤ B) : KR w' p v ks :=
  h.keep fun b hp hlt => ⟨hp, Nat.lt_of_lt_of_le hlt hb.size, fun o => hb.cell (by show b < B; omega)⟩

theorem KR.nil (w : World) (p : Nat → Prop) : KR w p (.slice none 0 0) [] :=
  .mk none 0 [] (fun _ => .slice none 0 0) (by simp) (fun h => by simp at h) (fun i h => by simp at h)

theorem KR.shape {w : World} {p : Nat → Prop} {v : Value} {ks : List Ex} (h : KR w p v ks) : ∃ ad cap, v = .slice ad ks.length cap := by
  cases h with
  | mk ad cap _ vi hm hc hk => exact ⟨ad, cap, rfl⟩

/-- The slice reads as names and their numbers. -/
def QReads (w : World) (v : Value) (l : List (List UInt8 × Int)) : Prop :=
  ∃ ad cap, v = .slice ad l.length cap ∧ l.length ≤ maxLen ∧ (0 < l.length → ∃ b o, ad = some ⟨b, o, none⟩ ∧ b < w.heap.size ∧ ∀ i (h : i < l.length),
    w.cell? ⟨b, o + i * 2, none⟩ = some (.string ⟨l[i].1.toArray⟩) ∧ w.cell? ⟨b, o + i * 2 + 1, none⟩ = some (.int .i64 l[i].2))

theorem QReads.below {w w' : World} {B : Nat} {v : Value} {l : List (List UInt8 × Int)} (h : QReads w v l) (hb : Below B w w') (hB : w.heap.size ≤ B) : QReads w' v l := by
  obtain ⟨ad, cap, rfl, hm, hc⟩ := h
  refine ⟨ad, cap, rfl, hm, fun h0 => ?_⟩
  obtain ⟨b, o, rfl, hlt, hcell⟩ := hc h0
  refine ⟨b, o, rfl, Nat.lt_of_lt_of_le hlt hb.size, fun i hi => ?_⟩
  rw [hb.cell (by show b < B; omega), hb.cell (by show b < B; omega)]
  exact hcell i hi
theorem QReads.nil (w : World) : QReads w (.slice none 0 0) [] := ⟨none, 0, rfl, Nat.zero_le _, fun h => by simp at h⟩

def vaV (v : Va) : Value := .agg #[.string ⟨v.name.toArray⟩, .int .i64 v.n]
/-- What Eval answers. -/
def evalV : Except Int Va → Value
  | .ok v => .tuple #[vaV v, .int .i64 0]
  | .error x => .tuple #[.agg #[.string ⟨#[]⟩, .int .i64 0], .int .i64 x]

end Go.Proofs.YtibenegbjpoclabDoor
