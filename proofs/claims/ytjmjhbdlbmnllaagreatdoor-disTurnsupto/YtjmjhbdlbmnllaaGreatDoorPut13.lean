/- What an expression is, how tokens are read as one, and what it comes to: functions of lists; no program in this text. Expressions, values and names' numbers in memory. Reading by layers: what is read of one strength out of what is read of the next stronger one; no program in this text. A place is a place, and so much more: what an expression comes to where a name is a place, and where it is a number. No program in this text. -/
import Derived.Test.YtjmjhbdlbmnllaaGreatDoorXBase
namespace Go.Proofs.YtjmjhbdlbmnllaaGreatDoor.Xp
open Go.RowKit

inductive Ex where
  | mk (kind n : Int) (name : List UInt8) (kids : List Ex)

structure Va where
  name : List UInt8
  n : Int

/-- A number of 32 bits. -/
def sgn (n : Int) : Int := wrap32 n

/-- What one token alone is. -/
def leafR : List Tok → Except Int (Ex × List Tok)
  | [] => .error 9
  | t :: r =>
    if t.kind = 2 then .ok (.mk 1 (sgn t.n) [] [], r)
    else if t.kind ≠ 1 then .error 2
    else if nameR t.text = true then .ok (.mk 2 0 t.text [], r)
    else .error 7


/-- A name's number: the first one counts. -/
def lookE (name : List UInt8) : List (List UInt8 × Int) → Option Int
  | [] => none
  | x :: r => if x.1 = name then some x.2 else lookE name r

/-- Two numbers of 32 bits. -/
def opR (kind x y : Int) : Int :=
  if kind = 5 then wrap32 (x * y)
  else if kind = 6 then wrap32 (x + y)
  else if kind = 7 then wrap32 (x - y)
  else if kind = 8 then wrap32 ((x % 4294967296) * 2 ^ ((y % 4294967296) % 32).toNat)
  else if kind = 9 then wrap32 ((x % 4294967296) / 2 ^ ((y % 4294967296) % 32).toNat)
  else if kind = 10 then bits .and .i32 x y
  else bits .or .i32 x y

/-- The place that two come to, if they may. -/
def placeR (kind : Int) (a b : List UInt8) : Option (List UInt8) :=
  if a = [] ∧ b = [] then some []
  else if kind = 7 ∧ a = b then some []
  else if kind = 7 ∧ b = [] then some a
  else if kind = 6 ∧ a = [] then some b
  else if kind = 6 ∧ b = [] then some a
  else none


end Go.Proofs.YtjmjhbdlbmnllaaGreatDoor.Xp

namespace Go.Proofs.YtjmjhbdlbmnllaaGreatDoor.Xp
open Go.RowKit

def Ex.kind : Ex → Int | .mk k _ _ _ => k
def Ex.n : Ex → Int | .mk _ n _ _ => n
def Ex.name : Ex → List UInt8 | .mk _ _ t _ => t
/-- An expression's value, kv its Kids. -/
def exV (e : Ex) (kv : Value) : Value := .agg #[.int .i64 e.kind, .int .i64 e.n, .string ⟨e.name.toArray⟩, kv]

/-- The slice reads as names and their numbers. -/
def QReads (w : World) (v : Value) (l : List (List UInt8 × Int)) : Prop :=
  ∃ ad cap, v = .slice ad l.length cap ∧ l.length ≤ maxLen ∧ (0 < l.length → ∃ b o, ad = some ⟨b, o, none⟩ ∧ b < w.heap.size ∧ ∀ i (h : i < l.length),
    w.cell? ⟨b, o + i * 2, none⟩ = some (.string ⟨l[i].1.toArray⟩) ∧ w.cell? ⟨b, o + i * 2 + 1, none⟩ = some (.int .i64 l[i].2))

theorem QReads.below {w w' : World} {B : Nat} {v : Value} {l : List (List UInt8 × Int)} (h : QReads w v l) (hb : Below B w w') (hB : w.heap.size ≤ B) : QReads w' v l := by
  obtain ⟨ad, cap, rfl, hm, hc⟩ := h
  refine ⟨ad, cap, rfl, hm, fun h0 => ?_⟩
  obtain ⟨b, o, rfl, hlt, hcell⟩ := hc h0
  refine ⟨b, o, rfl, Nat.lt_of_lt_of_le hlt hb.size, fun i hi => ?_⟩
  rw [hb.cell (by show b < B; omega), hb.cell (by show b < B; omega)]
  exact hcell i hi
theorem QReads.nil (w : World) : QReads w (.slice none 0 0) [] := ⟨none, 0, rfl, Nat.zero_le _, fun h => by simp at h⟩

def vaV (v : Va) : Value := .agg #[.string ⟨v.name.toArray⟩, .int .i64 v.n]
/-- What Eval answers. -/
def evalV : Except Int Va → Value
  | .ok v => .tuple #[vaV v, .int .i64 0]
  | .error x => .tuple #[.agg #[.string ⟨#[]⟩, .int .i64 0], .int .i64 x]

end Go.Proofs.YtjmjhbdlbmnllaaGreatDoor.Xp

namespace Go.Proofs.YtjmjhbdlbmnllaaGreatDoor.Xp
open Go.RowKit

end Go.Proofs.YtjmjhbdlbmnllaaGreatDoor.Xp

namespace Go.Proofs.YtjmjhbdlbmnllaaGreatDoor.Xp
open Go.RowKit

theorem wrap_i32 (n : Int) : IntKind.i32.wrap n = wrap32 n := by
  simp [IntKind.wrap, IntKind.bits, IntKind.signed, wrap32]
  split <;> omega


end Go.Proofs.YtjmjhbdlbmnllaaGreatDoor.Xp
