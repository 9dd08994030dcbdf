/- The parsers in memory, and the contract of the reader's single. -/
import Derived.Test.YtibenegbjpoclabDoorPaD
namespace Go.Proofs.YtibenegbjpoclabDoor
open Go.RowKit

/-- The value v is a parser: of what is strong by 6 - m. -/
def PV (w : World) (B : Nat) (V : Value) : Nat → Value → Prop
  | 0, v => ∃ a1 a2, v = .func (.func 31) #[] #[.pointer (some ⟨a1, 0, none⟩), .pointer (some ⟨a2, 0, none⟩)] ∧ a1 ≠ B ∧ a2 ≠ B ∧
      w.cell? ⟨a1, 0, none⟩ = some (.pointer (some ⟨B, 0, none⟩)) ∧ w.cell? ⟨a2, 0, none⟩ = some V
  | m + 1, v => ∃ p r s v', v = .func (.func 47) #[] #[.pointer (some ⟨p, 0, none⟩), .pointer (some ⟨r, 0, none⟩), .pointer (some ⟨s, 0, none⟩)] ∧ p ≠ B ∧ r ≠ B ∧ s ≠ B ∧
      w.cell? ⟨p, 0, none⟩ = some v' ∧ w.cell? ⟨r, 0, none⟩ = some (.pointer (some ⟨B, 0, none⟩)) ∧ w.cell? ⟨s, 0, none⟩ = some (.int .i64 ((5 - m : Nat) : Int)) ∧ PV w B V m v'

theorem PV.keep {w w' : World} {B : Nat} {V : Value} (hg : w.grownBy w' (some B)) : ∀ {m : Nat} {v : Value}, PV w B V m v → PV w' B V m v
  | 0, v, ⟨a1, a2, e, h1, h2, c1, c2⟩ => ⟨a1, a2, e, h1, h2, hg.cell c1 (by intro e; cases e; exact h1 rfl), hg.cell c2 (by intro e; cases e; exact h2 rfl)⟩
  | m + 1, v, ⟨p, r, s, v', e, h1, h2, h3, c1, c2, c3, hv⟩ => ⟨p, r, s, v', e, h1, h2, h3, hg.cell c1 (by intro e; cases e; exact h1 rfl), hg.cell c2 (by intro e; cases e; exact h2 rfl), hg.cell c3 (by intro e; cases e; exact h3 rfl), hv.keep hg⟩

/-- What all parsers lean on. -/
structure Env (w : World) (B : Nat) (V : Value) : Prop where
  kl : KLaid w
  pos : 0 < B
  all : PV w B V 5 V
theorem Env.keep {w w' : World} {B : Nat} {V : Value} (h : Env w B V) (hg : w.grownBy w' (some B)) : Env w' B V := ⟨h.kl.by hg h.pos, h.pos, h.all.keep hg⟩

/-- What a parser answers, N: where new blocks begin. -/
def PAns (w' : World) (B N : Nat) (ts : List Tok) (c : Nat) (r : Except Int (Ex × List Tok)) (e : Ending) : Prop := match r with
  | .ok (x, l) => ∃ kv c', e = .returned (.tuple #[exV x kv, .int .i64 0]) ∧ KR w' (fun b => N ≤ b) kv x.kids ∧ Rdr w' B ts c' ∧ l = ts.drop c' ∧ c < c'
  | .error y => ∃ (a b : Int) (s : ByteArray) (ad : Option Addr) (n m c' : Nat), e = .returned (.tuple #[.agg #[.int .i64 a, .int .i64 b, .string s, .slice ad n m], .int .i64 y]) ∧ y ≠ 0 ∧ Rdr w' B ts c'

def SingleOK (B : Nat) (V : Value) (ts : List Tok) (c : Nat) : Prop := ∀ (deep : Nat) (w : World), deep ≤ 7 → Rdr w B ts c → Env w B V →
  Calls Tryd.prog 32 #[.pointer (some ⟨B, 0, none⟩), .int .i64 deep, V] w fun e w' => (∃ r, Pr deep (ts.drop c) r ∧ PAns w' B w.heap.size ts c r e) ∧ w.grownBy w' (some B)

def LevelOK (B : Nat) (V : Value) (ts : List Tok) (m c : Nat) : Prop := ∀ (deep : Nat) (w : World) (v : Value) (f : FuncId) (caps : Array Value), deep ≤ 7 → Rdr w B ts c → Env w B V → PV w B V m v → v = .func (.func f) #[] caps →
  Calls Tryd.prog f (#[.int .i64 deep] ++ caps) w fun e w' => (∃ r, Lv (6 - m) deep (ts.drop c) r ∧ PAns w' B w.heap.size ts c r e) ∧ w.grownBy w' (some B)

theorem KR.one {w : World} {p : Nat → Prop} {K : Nat} {x : Ex} {kv : Value} {t : TypeId} {fr : Nat × Nat} (hK : p K) (hb : w.heap[K]? = some (.cells #[.int .i64 x.kind, .int .i64 x.n, .string ⟨x.name.toArray⟩, kv] t fr)) (hx : KR w p kv x.kids) : KR w p (.slice (some ⟨K, 0, none⟩) 1 1) [x] := by
  refine .mk (some ⟨K, 0, none⟩) 1 [x] (fun _ => kv) (by simp) (fun _ => ⟨K, 0, rfl, hK, (Array.getElem?_eq_some_iff.1 hb).1, fun i hi => ?_⟩) (fun i hi => ?_)
  · have : i = 0 := by simpa using hi
    subst this
    refine ⟨?_, ?_, ?_, ?_⟩ <;> simp [World.cell?, hb]
  · have : i = 0 := by simpa using hi
    subst this
    exact hx
theorem KR.two {w : World} {p : Nat → Prop} {K : Nat} {x y : Ex} {kv lv : Value} {t : TypeId} {fr : Nat × Nat} (hK : p K) (hb : w.heap[K]? = some (.cells #[.int .i64 x.kind, .int .i64 x.n, .string ⟨x.name.toArray⟩, kv, .int .i64 y.kind, .int .i64 y.n, .string ⟨y.name.toArray⟩, lv] t fr)) (hx : KR w p kv x.kids) (hy : KR w p lv y.kids) : KR w p (.slice (some ⟨K, 0, none⟩) 2 2) [x, y] := by
  refine .mk (some ⟨K, 0, none⟩) 2 [x, y] (fun i => if i = 0 then kv else lv) (by simp) (fun _ => ⟨K, 0, rfl, hK, (Array.getElem?_eq_some_iff.1 hb).1, fun i hi => ?_⟩) (fun i hi => ?_)
  · have : i = 0 ∨ i = 1 := by simp at hi; omega
    rcases this with rfl | rfl
    · refine ⟨?_, ?_, ?_, ?_⟩ <;> simp [World.cell?, hb]
    · refine ⟨?_, ?_, ?_, ?_⟩ <;> simp [World.cell?, hb]
  · have : i = 0 ∨ i = 1 := by simp at hi; omega
    rcases this with rfl | rfl
    · exact hx
    · exact hy

end Go.Proofs.YtibenegbjpoclabDoor
