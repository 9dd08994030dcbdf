/- What an expression is, how tokens are read as one, and what it comes to: functions of lists; no program in this text. Expressions, values and names' numbers in memory. Reading by layers: what is read of one strength out of what is read of the next stronger one; no program in this text. A place is a place, and so much more: what an expression comes to where a name is a place, and where it is a number. No program in this text. -/
import Derived.Test.YtagkmgdjkailkaaGreatDoorXBase
namespace Go.Proofs.YtagkmgdjkailkaaGreatDoor.Xp
open Go.RowKit

inductive Ex where
  | mk (kind n : Int) (name : List UInt8) (kids : List Ex)

structure Va where
  name : List UInt8
  n : Int

/-- A number of 32 bits. -/
def sgn (n : Int) : Int := wrap32 n

/-- The sign that tokens begin with; empty: none. -/
def signOf : List Tok → List UInt8
  | [] => []
  | t :: _ => if t.kind = 3 then t.text else []

/-- How a sign binds, and its kind; 0: it is none between two. -/
def strengthR (s : List UInt8) : Nat × Int :=
  if s = [124] then (1, 11)
  else if s = [38] then (2, 10)
  else if s = [60, 60] then (3, 8)
  else if s = [62, 62] then (3, 9)
  else if s = [43] then (4, 6)
  else if s = [45] then (4, 7)
  else if s = [42] then (5, 5)
  else (0, 0)

/-- What one token alone is. -/
def leafR : List Tok → Except Int (Ex × List Tok)
  | [] => .error 9
  | t :: r =>
    if t.kind = 2 then .ok (.mk 1 (sgn t.n) [] [], r)
    else if t.kind ≠ 1 then .error 2
    else if nameR t.text = true then .ok (.mk 2 0 t.text [], r)
    else .error 7

abbrev Res := Option (Except Int (Ex × List Tok))

mutual
/-- What has no sign between; f: how far to look. -/
def primeR : Nat → Nat → List Tok → Res
  | 0, _, _ => none
  | f + 1, deep, l =>
    if 6 < deep then some (.error 10)
    else if signOf l = [45] then
      match primeR f (deep + 1) l.tail with
      | none => none
      | some (.error e) => some (.error e)
      | some (.ok (k, r)) => some (.ok (.mk 3 0 [] [k], r))
    else if signOf l = [126] then
      match primeR f (deep + 1) l.tail with
      | none => none
      | some (.error e) => some (.error e)
      | some (.ok (k, r)) => some (.ok (.mk 4 0 [] [k], r))
    else if signOf l = [40] then
      match climbR f 1 (deep + 1) l.tail with
      | none => none
      | some (.error e) => some (.error e)
      | some (.ok (k, r)) => if signOf r = [41] then some (.ok (k, r.tail)) else some (.error 2)
    else some (leafR l)
/-- Signs of a strength, or more. -/
def climbR : Nat → Nat → Nat → List Tok → Res
  | 0, _, _, _ => none
  | f + 1, least, deep, l =>
    match primeR f deep l with
    | none => none
    | some (.error e) => some (.error e)
    | some (.ok (k, r)) => moreR f least deep k r
/-- .. behind a first one. -/
def moreR : Nat → Nat → Nat → Ex → List Tok → Res
  | 0, _, _, _, _ => none
  | f + 1, least, deep, e, l =>
    if (strengthR (signOf l)).1 < least then some (.ok (e, l))
    else
      match climbR f ((strengthR (signOf l)).1 + 1) deep l.tail with
      | none => none
      | some (.error x) => some (.error x)
      | some (.ok (k, r)) => moreR f least deep (.mk (strengthR (signOf l)).2 0 [] [e, k]) r
end

theorem more_all : ∀ (f : Nat),
    (∀ deep l r, primeR f deep l = some r → primeR (f + 1) deep l = some r) ∧
    (∀ least deep l r, climbR f least deep l = some r → climbR (f + 1) least deep l = some r) ∧
    (∀ least deep e l r, moreR f least deep e l = some r → moreR (f + 1) least deep e l = some r)
  | 0 => ⟨fun _ _ _ h => by simp [primeR] at h, fun _ _ _ _ h => by simp [climbR] at h, fun _ _ _ _ _ h => by simp [moreR] at h⟩
  | f + 1 => by
    obtain ⟨i1, i2, i3⟩ := more_all f
    refine ⟨fun deep l r h => ?_, fun least deep l r h => ?_, fun least deep e l r h => ?_⟩
    · rw [primeR] at h ⊢
      by_cases h6 : 6 < deep
      · rw [if_pos h6] at h ⊢; exact h
      rw [if_neg h6] at h ⊢
      by_cases ha : signOf l = [45]
      · rw [if_pos ha] at h ⊢
        cases hp : primeR f (deep + 1) l.tail with
        | none => rw [hp] at h; cases h
        | some x => rw [hp] at h; rw [i1 _ _ _ hp]; exact h
      rw [if_neg ha] at h ⊢
      by_cases hb : signOf l = [126]
      · rw [if_pos hb] at h ⊢
        cases hp : primeR f (deep + 1) l.tail with
        | none => rw [hp] at h; cases h
        | some x => rw [hp] at h; rw [i1 _ _ _ hp]; exact h
      rw [if_neg hb] at h ⊢
      by_cases hc : signOf l = [40]
      · rw [if_pos hc] at h ⊢
        cases hp : climbR f 1 (deep + 1) l.tail with
        | none => rw [hp] at h; cases h
        | some x => rw [hp] at h; rw [i2 _ _ _ _ hp]; exact h
      rw [if_neg hc] at h ⊢
      exact h
    · rw [climbR] at h ⊢
      cases hp : primeR f deep l with
      | none => rw [hp] at h; cases h
      | some x =>
        rw [hp] at h
        rw [i1 _ _ _ hp]
        cases x with
        | error e => exact h
        | ok y => exact i3 _ _ _ _ _ h
    · rw [moreR] at h ⊢
      by_cases h6 : (strengthR (signOf l)).1 < least
      · rw [if_pos h6] at h ⊢; exact h
      rw [if_neg h6] at h ⊢
      cases hp : climbR f ((strengthR (signOf l)).1 + 1) deep l.tail with
      | none => rw [hp] at h; cases h
      | some x =>
        rw [hp] at h
        rw [i2 _ _ _ _ hp]
        cases x with
        | error e => exact h
        | ok y => exact i3 _ _ _ _ _ h

theorem prime_le {f g deep : Nat} {l : List Tok} {r} (hfg : f ≤ g) (h : primeR f deep l = some r) : primeR g deep l = some r := by
  induction g with
  | zero => obtain rfl : f = 0 := by omega
            exact h
  | succ g ih =>
    by_cases e : f = g + 1
    · subst e; exact h
    · exact (more_all g).1 _ _ _ (ih (by omega))
theorem climb_le {f g least deep : Nat} {l : List Tok} {r} (hfg : f ≤ g) (h : climbR f least deep l = some r) : climbR g least deep l = some r := by
  induction g with
  | zero => obtain rfl : f = 0 := by omega
            exact h
  | succ g ih =>
    by_cases e : f = g + 1
    · subst e; exact h
    · exact (more_all g).2.1 _ _ _ _ (ih (by omega))
theorem rest_le {f g least deep : Nat} {k : Ex} {l : List Tok} {r} (hfg : f ≤ g) (h : moreR f least deep k l = some r) : moreR g least deep k l = some r := by
  induction g with
  | zero => obtain rfl : f = 0 := by omega
            exact h
  | succ g ih =>
    by_cases e : f = g + 1
    · subst e; exact h
    · exact (more_all g).2.2 _ _ _ _ _ (ih (by omega))

/-- What tokens begin with. -/
def Parses (l : List Tok) (r : Except Int (Ex × List Tok)) : Prop := ∃ f, climbR f 1 0 l = some r
theorem Parses.same {l : List Tok} {a b} (ha : Parses l a) (hb : Parses l b) : a = b := by
  obtain ⟨f, hf⟩ := ha
  obtain ⟨g, hg⟩ := hb
  have h1 := climb_le (Nat.le_max_left f g) hf
  have h2 := climb_le (Nat.le_max_right f g) hg
  rw [h1] at h2
  exact Option.some.inj h2

/-- A name's number: the first one counts. -/
def lookE (name : List UInt8) : List (List UInt8 × Int) → Option Int
  | [] => none
  | x :: r => if x.1 = name then some x.2 else lookE name r

/-- Two numbers of 32 bits. -/
def opR (kind x y : Int) : Int :=
  if kind = 5 then wrap32 (x * y)
  else if kind = 6 then wrap32 (x + y)
  else if kind = 7 then wrap32 (x - y)
  else if kind = 8 then wrap32 ((x % 4294967296) * 2 ^ ((y % 4294967296) % 32).toNat)
  else if kind = 9 then wrap32 ((x % 4294967296) / 2 ^ ((y % 4294967296) % 32).toNat)
  else if kind = 10 then bits .and .i32 x y
  else bits .or .i32 x y

/-- The place that two come to, if they may. -/
def placeR (kind : Int) (a b : List UInt8) : Option (List UInt8) :=
  if a = [] ∧ b = [] then some []
  else if kind = 7 ∧ a = b then some []
  else if kind = 7 ∧ b = [] then some a
  else if kind = 6 ∧ a = [] then some b
  else if kind = 6 ∧ b = [] then some a
  else none

/-- What comes of an expression whose parts have come to vs. -/
def combR (equs : List (List UInt8 × Int)) (kind n : Int) (name : List UInt8) (vs : List Va) : Except Int Va :=
  if kind = 1 ∧ vs = [] then .ok ⟨[], sgn n⟩
  else if kind = 2 ∧ vs = [] then
    match lookE name equs with
    | some x => .ok ⟨[], sgn x⟩
    | none => .ok ⟨name, 0⟩
  else match vs with
    | [a] => if kind = 3 ∨ kind = 4 then (if a.name = [] then .ok ⟨[], sgn (if kind = 4 then -a.n - 1 else -a.n)⟩ else .error 8) else .error 1
    | [a, b] => if 5 ≤ kind ∧ kind ≤ 11 then
        match placeR kind a.name b.name with
        | some p => .ok ⟨p, opR kind a.n b.n⟩
        | none => .error 8
      else .error 1
    | _ => .error 1

mutual
def evalR (equs : List (List UInt8 × Int)) : Ex → Except Int Va
  | .mk kind n name kids => match evalL equs kids with
    | .error e => .error e
    | .ok vs => combR equs kind n name vs
def evalL (equs : List (List UInt8 × Int)) : List Ex → Except Int (List Va)
  | [] => .ok []
  | k :: r => match evalR equs k with
    | .error e => .error e
    | .ok v => match evalL equs r with
      | .error e => .error e
      | .ok vs => .ok (v :: vs)
end

end Go.Proofs.YtagkmgdjkailkaaGreatDoor.Xp

namespace Go.Proofs.YtagkmgdjkailkaaGreatDoor.Xp
open Go.RowKit

def Ex.kind : Ex → Int | .mk k _ _ _ => k
def Ex.n : Ex → Int | .mk _ n _ _ => n
def Ex.name : Ex → List UInt8 | .mk _ _ t _ => t
def Ex.kids : Ex → List Ex | .mk _ _ _ ks => ks
/-- An expression's value, kv its Kids. -/
def exV (e : Ex) (kv : Value) : Value := .agg #[.int .i64 e.kind, .int .i64 e.n, .string ⟨e.name.toArray⟩, kv]

/-- The slice reads as those expressions, all in blocks of which p holds. -/
inductive KR (w : World) (p : Nat → Prop) : Value → List Ex → Prop where
  | mk (ad : Option Addr) (cap : Nat) (ks : List Ex) (vi : Nat → Value) (hm : ks.length ≤ 2513169434843)
      (hc : 0 < ks.length → ∃ b o, ad = some ⟨b, o, none⟩ ∧ p b ∧ b < w.heap.size ∧ ∀ i (h : i < ks.length),
        w.cell? ⟨b, o + i * 4, none⟩ = some (.int .i64 ks[i].kind) ∧ w.cell? ⟨b, o + i * 4 + 1, none⟩ = some (.int .i64 ks[i].n) ∧ w.cell? ⟨b, o + i * 4 + 2, none⟩ = some (.string ⟨ks[i].name.toArray⟩) ∧ w.cell? ⟨b, o + i * 4 + 3, none⟩ = some (vi i))
      (hk : ∀ i (h : i < ks.length), KR w p (vi i) ks[i].kids) : KR w p (.slice ad ks.length cap) ks

theorem KR.keep {w w' : World} {p q : Nat → Prop} {v : Value} {ks : List Ex} (h : KR w p v ks) (hs : ∀ b, p b → b < w.heap.size → q b ∧ b < w'.heap.size ∧ ∀ o, w'.cell? ⟨b, o, none⟩ = w.cell? ⟨b, o, none⟩) : KR w' q v ks := by
  induction h with
  | mk ad cap ks vi hm hc hk ih =>
    refine .mk ad cap ks vi hm (fun h0 => ?_) ih
    obtain ⟨b, o, e, hp, hb, hcs⟩ := hc h0
    obtain ⟨s1, s2, s3⟩ := hs b hp hb
    refine ⟨b, o, e, s1, s2, fun i hi => ?_⟩
    obtain ⟨c0, c1, c2, c3⟩ := hcs i hi
    rw [s3, s3, s3, s3]
    exact ⟨c0, c1, c2, c3⟩

theorem KR.nil (w : World) (p : Nat → Prop) : KR w p (.slice none 0 0) [] :=
  .mk none 0 [] (fun _ => .slice none 0 0) (by simp) (fun h => by simp at h) (fun i h => by simp at h)

theorem KR.shape {w : World} {p : Nat → Prop} {v : Value} {ks : List Ex} (h : KR w p v ks) : ∃ ad cap, v = .slice ad ks.length cap := by
  cases h with
  | mk ad cap _ vi hm hc hk => exact ⟨ad, cap, rfl⟩

/-- The slice reads as names and their numbers. -/
def QReads (w : World) (v : Value) (l : List (List UInt8 × Int)) : Prop :=
  ∃ ad cap, v = .slice ad l.length cap ∧ l.length ≤ maxLen ∧ (0 < l.length → ∃ b o, ad = some ⟨b, o, none⟩ ∧ b < w.heap.size ∧ ∀ i (h : i < l.length),
    w.cell? ⟨b, o + i * 2, none⟩ = some (.string ⟨l[i].1.toArray⟩) ∧ w.cell? ⟨b, o + i * 2 + 1, none⟩ = some (.int .i64 l[i].2))

theorem QReads.below {w w' : World} {B : Nat} {v : Value} {l : List (List UInt8 × Int)} (h : QReads w v l) (hb : Below B w w') (hB : w.heap.size ≤ B) : QReads w' v l := by
  obtain ⟨ad, cap, rfl, hm, hc⟩ := h
  refine ⟨ad, cap, rfl, hm, fun h0 => ?_⟩
  obtain ⟨b, o, rfl, hlt, hcell⟩ := hc h0
  refine ⟨b, o, rfl, Nat.lt_of_lt_of_le hlt hb.size, fun i hi => ?_⟩
  rw [hb.cell (by show b < B; omega), hb.cell (by show b < B; omega)]
  exact hcell i hi
theorem QReads.nil (w : World) : QReads w (.slice none 0 0) [] := ⟨none, 0, rfl, Nat.zero_le _, fun h => by simp at h⟩

def vaV (v : Va) : Value := .agg #[.string ⟨v.name.toArray⟩, .int .i64 v.n]
/-- What Eval answers. -/
def evalV : Except Int Va → Value
  | .ok v => .tuple #[vaV v, .int .i64 0]
  | .error x => .tuple #[.agg #[.string ⟨#[]⟩, .int .i64 0], .int .i64 x]

end Go.Proofs.YtagkmgdjkailkaaGreatDoor.Xp

namespace Go.Proofs.YtagkmgdjkailkaaGreatDoor.Xp
open Go.RowKit

def Pr (deep : Nat) (l : List Tok) (r : Except Int (Ex × List Tok)) : Prop := ∃ f, primeR f deep l = some r
def Lv (s deep : Nat) (l : List Tok) (r : Except Int (Ex × List Tok)) : Prop := ∃ f, climbR f s deep l = some r
def Mo (s deep : Nat) (e : Ex) (l : List Tok) (r : Except Int (Ex × List Tok)) : Prop := ∃ f, moreR f s deep e l = some r

theorem strength_le (s : List UInt8) : (strengthR s).1 ≤ 5 := by
  unfold strengthR
  repeat' split
  all_goals decide

theorem Lv.of {s deep : Nat} {l l' : List Tok} {e : Ex} {r} (h : Pr deep l (.ok (e, l'))) (hm : Mo s deep e l' r) : Lv s deep l r := by
  obtain ⟨f, hf⟩ := h
  obtain ⟨g, hg⟩ := hm
  refine ⟨f + g + 1, ?_⟩
  rw [climbR, prime_le (show f ≤ f + g by omega) hf]
  exact rest_le (by omega) hg
theorem Lv.bad {s deep : Nat} {l : List Tok} {x : Int} (h : Pr deep l (.error x)) : Lv s deep l (.error x) := by
  obtain ⟨f, hf⟩ := h
  exact ⟨f + 1, by rw [climbR, hf]⟩
theorem Mo.stop {s deep : Nat} {e : Ex} {l : List Tok} (h : (strengthR (signOf l)).1 < s) : Mo s deep e l (.ok (e, l)) := ⟨1, by rw [moreR, if_pos h]⟩
theorem Mo.bad {s deep : Nat} {e : Ex} {l : List Tok} {x : Int} (h : ¬ (strengthR (signOf l)).1 < s) (hl : Lv ((strengthR (signOf l)).1 + 1) deep l.tail (.error x)) : Mo s deep e l (.error x) := by
  obtain ⟨f, hf⟩ := hl
  exact ⟨f + 1, by rw [moreR, if_neg h, hf]⟩
theorem Mo.step {s deep : Nat} {e k : Ex} {l l' : List Tok} {r} (h : ¬ (strengthR (signOf l)).1 < s) (hl : Lv ((strengthR (signOf l)).1 + 1) deep l.tail (.ok (k, l')))
    (hm : Mo s deep (.mk (strengthR (signOf l)).2 0 [] [e, k]) l' r) : Mo s deep e l r := by
  obtain ⟨f, hf⟩ := hl
  obtain ⟨g, hg⟩ := hm
  refine ⟨f + g + 1, ?_⟩
  rw [moreR, if_neg h, climb_le (show f ≤ f + g by omega) hf]
  exact rest_le (by omega) hg

theorem Lv.six {deep : Nat} {l : List Tok} {r} (h : Pr deep l r) : Lv 6 deep l r := by
  cases r with
  | error x => exact .bad h
  | ok y => exact .of h (.stop (by have := strength_le (signOf y.2); omega))

theorem stop_all : ∀ (f : Nat), (∀ s deep l e r, climbR f s deep l = some (.ok (e, r)) → (strengthR (signOf r)).1 < s) ∧ (∀ s deep k l e r, moreR f s deep k l = some (.ok (e, r)) → (strengthR (signOf r)).1 < s)
  | 0 => ⟨fun _ _ _ _ _ h => by simp [climbR] at h, fun _ _ _ _ _ _ h => by simp [moreR] at h⟩
  | f + 1 => by
    obtain ⟨i1, i2⟩ := stop_all f
    refine ⟨fun s deep l e r h => ?_, fun s deep k l e r h => ?_⟩
    · rw [climbR] at h
      cases hp : primeR f deep l with
      | none => rw [hp] at h; cases h
      | some x =>
        rw [hp] at h
        cases x with
        | error e => cases h
        | ok y => exact i2 _ _ _ _ _ _ h
    · rw [moreR] at h
      by_cases h6 : (strengthR (signOf l)).1 < s
      · rw [if_pos h6] at h
        injection h with h
        injection h with h
        injection h with h1 h2
        subst h1 h2
        exact h6
      rw [if_neg h6] at h
      cases hp : climbR f ((strengthR (signOf l)).1 + 1) deep l.tail with
      | none => rw [hp] at h; cases h
      | some x =>
        rw [hp] at h
        cases x with
        | error e => cases h
        | ok y => exact i2 _ _ _ _ _ _ h
theorem Lv.stop {s deep : Nat} {l l' : List Tok} {e : Ex} (h : Lv s deep l (.ok (e, l'))) : (strengthR (signOf l')).1 < s := by
  obtain ⟨f, hf⟩ := h
  exact (stop_all f).1 _ _ _ _ _ hf

theorem more_on : ∀ (f s deep : Nat) (e : Ex) (l : List Tok),
    (∀ x, moreR f (s + 1) deep e l = some (.error x) → Mo s deep e l (.error x)) ∧
    (∀ k l' r, moreR f (s + 1) deep e l = some (.ok (k, l')) → Mo s deep k l' r → Mo s deep e l r)
  | 0, _, _, _, _ => ⟨fun _ h => by simp [moreR] at h, fun _ _ _ h => by simp [moreR] at h⟩
  | f + 1, s, deep, e, l => by
    by_cases h6 : (strengthR (signOf l)).1 < s + 1
    · refine ⟨fun x h => ?_, fun k l' r h hm => ?_⟩
      · rw [moreR, if_pos h6] at h; cases h
      · rw [moreR, if_pos h6] at h
        injection h with h
        injection h with h
        injection h with h1 h2
        subst h1 h2
        exact hm
    · have h7 : ¬ (strengthR (signOf l)).1 < s := by omega
      refine ⟨fun x h => ?_, fun k l' r h hm => ?_⟩
      · rw [moreR, if_neg h6] at h
        cases hp : climbR f ((strengthR (signOf l)).1 + 1) deep l.tail with
        | none => rw [hp] at h; cases h
        | some y =>
          rw [hp] at h
          cases y with
          | error z => injection h with h; exact h ▸ .bad h7 ⟨f, hp⟩
          | ok y => exact .step h7 ⟨f, hp⟩ ((more_on f s deep _ _).1 _ h)
      · rw [moreR, if_neg h6] at h
        cases hp : climbR f ((strengthR (signOf l)).1 + 1) deep l.tail with
        | none => rw [hp] at h; cases h
        | some y =>
          rw [hp] at h
          cases y with
          | error z => cases h
          | ok y => exact .step h7 ⟨f, hp⟩ ((more_on f s deep _ _).2 _ _ _ h hm)

theorem Lv.err {s deep : Nat} {l : List Tok} {x : Int} (h : Lv (s + 1) deep l (.error x)) : Lv s deep l (.error x) := by
  obtain ⟨f, hf⟩ := h
  cases f with
  | zero => simp [climbR] at hf
  | succ f =>
    rw [climbR] at hf
    cases hp : primeR f deep l with
    | none => rw [hp] at hf; cases hf
    | some y =>
      rw [hp] at hf
      cases y with
      | error z => injection hf with hf; exact hf ▸ .bad ⟨f, hp⟩
      | ok y => exact .of ⟨f, hp⟩ ((more_on f s deep _ _).1 _ hf)
theorem Lv.on {s deep : Nat} {l l' : List Tok} {e : Ex} {r} (h : Lv (s + 1) deep l (.ok (e, l'))) (hm : Mo s deep e l' r) : Lv s deep l r := by
  obtain ⟨f, hf⟩ := h
  cases f with
  | zero => simp [climbR] at hf
  | succ f =>
    rw [climbR] at hf
    cases hp : primeR f deep l with
    | none => rw [hp] at hf; cases hf
    | some y =>
      rw [hp] at hf
      cases y with
      | error z => cases hf
      | ok y => exact .of ⟨f, hp⟩ ((more_on f s deep _ _).2 _ _ _ hf hm)

theorem Pr.deep {deep : Nat} {l : List Tok} (h : 6 < deep) : Pr deep l (.error 10) := ⟨1, by rw [primeR, if_pos h]⟩
theorem Pr.not {deep : Nat} {l : List Tok} {k : Ex} {r : List Tok} (h : ¬ 6 < deep) (hs : signOf l = [126]) (hk : Pr (deep + 1) l.tail (.ok (k, r))) : Pr deep l (.ok (.mk 4 0 [] [k], r)) := by
  obtain ⟨f, hf⟩ := hk
  exact ⟨f + 1, by rw [primeR, if_neg h, if_neg (by rw [hs]; decide), if_pos hs, hf]⟩
theorem Pr.one {deep : Nat} {l : List Tok} {x : Int} (h : ¬ 6 < deep) (hs : signOf l = [45] ∨ signOf l = [126]) (hk : Pr (deep + 1) l.tail (.error x)) : Pr deep l (.error x) := by
  obtain ⟨f, hf⟩ := hk
  rcases hs with hs | hs
  · exact ⟨f + 1, by rw [primeR, if_neg h, if_pos hs, hf]⟩
  · exact ⟨f + 1, by rw [primeR, if_neg h, if_neg (by rw [hs]; decide), if_pos hs, hf]⟩
theorem Pr.inner {deep : Nat} {l : List Tok} {x : Int} (h : ¬ 6 < deep) (hs : signOf l = [40]) (hk : Lv 1 (deep + 1) l.tail (.error x)) : Pr deep l (.error x) := by
  obtain ⟨f, hf⟩ := hk
  exact ⟨f + 1, by rw [primeR, if_neg h, if_neg (by rw [hs]; decide), if_neg (by rw [hs]; decide), if_pos hs, hf]⟩
theorem Pr.leaf {deep : Nat} {l : List Tok} (h : ¬ 6 < deep) (h1 : ¬ signOf l = [45]) (h2 : ¬ signOf l = [126]) (h3 : ¬ signOf l = [40]) : Pr deep l (leafR l) := ⟨1, by rw [primeR, if_neg h, if_neg h1, if_neg h2, if_neg h3]⟩

end Go.Proofs.YtagkmgdjkailkaaGreatDoor.Xp

namespace Go.Proofs.YtagkmgdjkailkaaGreatDoor.Xp
open Go.RowKit

theorem sgn_sgn (n : Int) : sgn (sgn n) = sgn n := by unfold sgn wrap32; omega
theorem sgn_zero : sgn 0 = 0 := by unfold sgn wrap32; omega
theorem no67 {p : Prop} : ¬ ((6 : Int) = 7 ∧ p) := fun c => absurd c.1 (by decide)
theorem wrap_i32 (n : Int) : IntKind.i32.wrap n = wrap32 n := by
  simp [IntKind.wrap, IntKind.bits, IntKind.signed, wrap32]
  split <;> omega

theorem bits_i32 (op : BinOp) (x y : Int) : sgn (bits op .i32 x y) = bits op .i32 x y := by
  unfold bits
  rw [wrap_i32]
  exact sgn_sgn _

theorem opR_sgn (k x y : Int) : opR k x y = sgn (opR k x y) := by
  unfold opR
  split
  · exact (sgn_sgn _).symm
  split
  · exact (sgn_sgn _).symm
  split
  · exact (sgn_sgn _).symm
  split
  · exact (sgn_sgn _).symm
  split
  · exact (sgn_sgn _).symm
  split
  · exact (bits_i32 _ _ _).symm
  · exact (bits_i32 _ _ _).symm

/-- What a name's number makes of what came of an expression. -/
def Moved (name : List UInt8) (n : Int) (a b : Va) : Prop :=
  if name = [] then b.name = a.name else if a.name = name then b = ⟨[], sgn (a.n + n)⟩ else b = a

theorem moved_plain {name : List UInt8} {n : Int} {a b : Va} (h : Moved name n a b) (ha : a.name = []) : b.name = [] ∧ (name ≠ [] → b = a) := by
  unfold Moved at h
  by_cases hn : name = []
  · rw [if_pos hn] at h
    exact ⟨h.trans ha, fun h1 => absurd hn h1⟩
  · rw [if_neg hn, if_neg (by rw [ha]; exact fun e => hn e.symm)] at h
    exact ⟨h ▸ ha, fun _ => h⟩

theorem moved_of {name : List UInt8} {n : Int} {a b : Va} (h0 : name = [] → b.name = a.name) (h1 : name ≠ [] → a.name = name → b = ⟨[], sgn (a.n + n)⟩) (h2 : name ≠ [] → a.name ≠ name → b = a) : Moved name n a b := by
  unfold Moved
  by_cases hn : name = []
  · rw [if_pos hn]; exact h0 hn
  · rw [if_neg hn]
    by_cases ha : a.name = name
    · rw [if_pos ha]; exact h1 hn ha
    · rw [if_neg ha]; exact h2 hn ha

theorem look_one (name nm : List UInt8) (n : Int) : lookE nm [(name, n)] = if name = nm then some n else none := rfl

/-- Two that come to a place, or a number. -/
theorem moved_two {name : List UInt8} {n k : Int} {a1 a2 b1 b2 : Va} {p : List UInt8} (h1 : Moved name n a1 b1) (h2 : Moved name n a2 b2) (s1 : a1.n = sgn a1.n) (s2 : a2.n = sgn a2.n) (hp : placeR k a1.name a2.name = some p) :
    ∃ q, placeR k b1.name b2.name = some q ∧ Moved name n ⟨p, opR k a1.n a2.n⟩ ⟨q, opR k b1.n b2.n⟩ := by
  unfold placeR at hp
  by_cases c0 : a1.name = [] ∧ a2.name = []
  · rw [if_pos c0] at hp
    injection hp with hp
    subst hp
    obtain ⟨e1, f1⟩ := moved_plain h1 c0.1
    obtain ⟨e2, f2⟩ := moved_plain h2 c0.2
    refine ⟨[], by unfold placeR; rw [if_pos ⟨e1, e2⟩], moved_of (fun _ => rfl) (fun hn e => absurd e.symm hn) (fun hn _ => by rw [f1 hn, f2 hn])⟩
  rw [if_neg c0] at hp
  by_cases c1 : k = 7 ∧ a1.name = a2.name
  · rw [if_pos c1] at hp
    injection hp with hp
    subst hp
    obtain ⟨rfl, he⟩ := c1
    have hb : b1.name = b2.name := by
      unfold Moved at h1 h2
      by_cases hn : name = []
      · rw [if_pos hn] at h1 h2; rw [h1, h2, he]
      · rw [if_neg hn] at h1 h2
        by_cases ha : a1.name = name
        · rw [if_pos ha] at h1; rw [if_pos (he ▸ ha)] at h2; rw [h1, h2]
        · rw [if_neg ha] at h1; rw [if_neg (he ▸ ha)] at h2; rw [h1, h2, he]
    refine ⟨[], ?_, moved_of (fun _ => rfl) (fun hn e => absurd e.symm hn) (fun hn _ => ?_)⟩
    · unfold placeR
      by_cases c : b1.name = [] ∧ b2.name = []
      · rw [if_pos c]
      · rw [if_neg c, if_pos ⟨rfl, hb⟩]
    · unfold Moved at h1 h2
      rw [if_neg hn] at h1 h2
      by_cases ha : a1.name = name
      · rw [if_pos ha] at h1
        rw [if_pos (he ▸ ha)] at h2
        rw [h1, h2]
        congr 1
        simp only [opR]
        simp (config := { decide := true }) only [if_false, if_true]
        unfold sgn wrap32
        omega
      · rw [if_neg ha] at h1
        rw [if_neg (he ▸ ha)] at h2
        rw [h1, h2]
  rw [if_neg c1] at hp
  by_cases c2 : k = 7 ∧ a2.name = []
  · rw [if_pos c2] at hp
    injection hp with hp
    subst hp
    obtain ⟨rfl, he⟩ := c2
    obtain ⟨e2, f2⟩ := moved_plain h2 he
    unfold Moved at h1
    by_cases hn : name = []
    · rw [if_pos hn] at h1
      refine ⟨a1.name, ?_, moved_of (fun _ => rfl) (fun h => absurd hn h) (fun h => absurd hn h)⟩
      unfold placeR
      rw [if_neg (by rw [h1, e2]; exact fun c => c0 ⟨c.1, he⟩), if_neg (by rw [h1, e2]; exact fun c => c1 ⟨rfl, by rw [he]; exact c.2⟩), if_pos ⟨rfl, e2⟩, h1]
    · rw [if_neg hn] at h1
      by_cases ha : a1.name = name
      · rw [if_pos ha] at h1
        refine ⟨[], ?_, moved_of (fun h => absurd h hn) (fun _ _ => ?_) (fun _ h => absurd ha h)⟩
        · unfold placeR
          rw [if_pos ⟨by rw [h1], e2⟩]
        · rw [h1, f2 hn]
          congr 1
          simp only [opR]
          simp (config := { decide := true }) only [if_false, if_true]
          unfold sgn wrap32
          omega
      · rw [if_neg ha] at h1
        refine ⟨a1.name, ?_, moved_of (fun h => absurd h hn) (fun _ h => absurd h ha) (fun _ _ => by rw [h1, f2 hn])⟩
        unfold placeR
        rw [h1, if_neg (by rw [e2]; exact fun c => c0 ⟨c.1, he⟩), if_neg (by rw [e2]; exact fun c => c1 ⟨rfl, by rw [he]; exact c.2⟩), if_pos ⟨rfl, e2⟩]
  rw [if_neg c2] at hp
  by_cases c3 : k = 6 ∧ a1.name = []
  · rw [if_pos c3] at hp
    injection hp with hp
    subst hp
    obtain ⟨rfl, he⟩ := c3
    obtain ⟨e1, f1⟩ := moved_plain h1 he
    have hne : a2.name ≠ [] := fun h => c0 ⟨he, h⟩
    unfold Moved at h2
    by_cases hn : name = []
    · rw [if_pos hn] at h2
      refine ⟨a2.name, ?_, moved_of (fun _ => rfl) (fun h => absurd hn h) (fun h => absurd hn h)⟩
      unfold placeR
      rw [if_neg (by rw [h2]; exact fun c => hne c.2), if_neg no67, if_neg no67, if_pos ⟨rfl, e1⟩, h2]
    · rw [if_neg hn] at h2
      by_cases ha : a2.name = name
      · rw [if_pos ha] at h2
        refine ⟨[], ?_, moved_of (fun h => absurd h hn) (fun _ _ => ?_) (fun _ h => absurd ha h)⟩
        · unfold placeR
          rw [if_pos ⟨e1, by rw [h2]⟩]
        · rw [h2, f1 hn]
          congr 1
          simp only [opR]
          simp (config := { decide := true }) only [if_false, if_true]
          unfold sgn wrap32
          omega
      · rw [if_neg ha] at h2
        refine ⟨a2.name, ?_, moved_of (fun h => absurd h hn) (fun _ h => absurd h ha) (fun _ _ => by rw [h2, f1 hn])⟩
        unfold placeR
        rw [h2, if_neg (fun c => hne c.2), if_neg no67, if_neg no67, if_pos ⟨rfl, e1⟩]
  rw [if_neg c3] at hp
  by_cases c4 : k = 6 ∧ a2.name = []
  · rw [if_pos c4] at hp
    injection hp with hp
    subst hp
    obtain ⟨rfl, he⟩ := c4
    obtain ⟨e2, f2⟩ := moved_plain h2 he
    have hne : a1.name ≠ [] := fun h => c0 ⟨h, he⟩
    unfold Moved at h1
    by_cases hn : name = []
    · rw [if_pos hn] at h1
      refine ⟨a1.name, ?_, moved_of (fun _ => rfl) (fun h => absurd hn h) (fun h => absurd hn h)⟩
      unfold placeR
      rw [if_neg (by rw [h1]; exact fun c => hne c.1), if_neg no67, if_neg no67, if_neg (by rw [h1]; exact fun c => hne c.2), if_pos ⟨rfl, e2⟩, h1]
    · rw [if_neg hn] at h1
      by_cases ha : a1.name = name
      · rw [if_pos ha] at h1
        refine ⟨[], ?_, moved_of (fun h => absurd h hn) (fun _ _ => ?_) (fun _ h => absurd ha h)⟩
        · unfold placeR
          rw [if_pos ⟨by rw [h1], e2⟩]
        · rw [h1, f2 hn]
          congr 1
          simp only [opR]
          simp (config := { decide := true }) only [if_false, if_true]
          unfold sgn wrap32
          omega
      · rw [if_neg ha] at h1
        refine ⟨a1.name, ?_, moved_of (fun h => absurd h hn) (fun _ h => absurd h ha) (fun _ _ => by rw [h1, f2 hn])⟩
        unfold placeR
        rw [h1, if_neg (fun c => hne c.1), if_neg no67, if_neg no67, if_neg (fun c => hne c.2), if_pos ⟨rfl, e2⟩]
  rw [if_neg c4] at hp
  cases hp

/-- Each is what the other one has become. -/
inductive MovedL (name : List UInt8) (n : Int) : List Va → List Va → Prop where
  | nil : MovedL name n [] []
  | cons {a b : Va} {r s : List Va} : Moved name n a b → MovedL name n r s → MovedL name n (a :: r) (b :: s)

theorem MovedL.len {name : List UInt8} {n : Int} {a b : List Va} (h : MovedL name n a b) : a.length = b.length := by
  induction h with
  | nil => rfl
  | cons _ _ ih => simp [ih]

theorem moved_comb {name nm : List UInt8} {n m k : Int} {vs us : List Va} {a : Va} (hv : ∀ v, v ∈ vs → v.n = sgn v.n) (h : MovedL name n vs us) (hc : combR [] k m nm vs = .ok a) :
    a.n = sgn a.n ∧ ∃ b, combR [(name, n)] k m nm us = .ok b ∧ Moved name n a b := by
  unfold combR at hc ⊢
  cases h with
  | nil =>
    by_cases h1 : k = 1
    · rw [if_pos ⟨h1, rfl⟩] at hc ⊢
      injection hc with hc
      subst hc
      exact ⟨(sgn_sgn _).symm, _, rfl, moved_of (fun _ => rfl) (fun hn e => absurd e.symm hn) (fun _ _ => rfl)⟩
    · rw [if_neg (fun c => h1 c.1)] at hc ⊢
      by_cases h2 : k = 2
      · rw [if_pos ⟨h2, rfl⟩] at hc ⊢
        simp only [lookE] at hc
        injection hc with hc
        subst hc
        rw [look_one]
        refine ⟨sgn_zero.symm, ?_⟩
        by_cases hn : name = nm
        · rw [if_pos hn]
          refine ⟨_, rfl, moved_of (fun h => by rw [← hn, h]) (fun _ _ => by rw [Int.zero_add]) (fun _ h => absurd hn.symm h)⟩
        · rw [if_neg hn]
          exact ⟨_, rfl, moved_of (fun _ => rfl) (fun _ h => absurd h.symm hn) (fun _ _ => rfl)⟩
      · rw [if_neg (fun c => h2 c.1)] at hc
        cases hc
  | cons h1 hr =>
    rename_i a1 b1 r s
    rw [if_neg (fun c => by cases c.2), if_neg (fun c => by cases c.2)] at hc ⊢
    cases hr with
    | nil =>
      simp only at hc ⊢
      by_cases hk : k = 3 ∨ k = 4
      · rw [if_pos hk] at hc ⊢
        by_cases hp : a1.name = []
        · rw [if_pos hp] at hc
          injection hc with hc
          subst hc
          obtain ⟨e1, f1⟩ := moved_plain h1 hp
          rw [if_pos e1]
          exact ⟨(sgn_sgn _).symm, _, rfl, moved_of (fun _ => rfl) (fun hn e => absurd e.symm hn) (fun hn _ => by rw [f1 hn])⟩
        · rw [if_neg hp] at hc
          cases hc
      · rw [if_neg hk] at hc
        cases hc
    | cons h2 hr =>
      rename_i a2 b2 r s
      cases hr with
      | nil =>
        simp only at hc ⊢
        by_cases hk : 5 ≤ k ∧ k ≤ 11
        · rw [if_pos hk] at hc ⊢
          cases hp : placeR k a1.name a2.name with
          | none => rw [hp] at hc; cases hc
          | some p =>
            rw [hp] at hc
            injection hc with hc
            subst hc
            obtain ⟨q, hq, hm⟩ := moved_two h1 h2 (hv a1 (by simp)) (hv a2 (by simp)) hp
            rw [hq]
            exact ⟨opR_sgn _ _ _, _, rfl, hm⟩
        · rw [if_neg hk] at hc
          cases hc
      | cons h3 hr =>
        simp only at hc
        cases hc

mutual
theorem moves_e (name : List UInt8) (n : Int) : ∀ (e : Ex) (a : Va), evalR [] e = .ok a → a.n = sgn a.n ∧ ∃ b, evalR [(name, n)] e = .ok b ∧ Moved name n a b
  | .mk kind m nm kids, a, h => by
    rw [evalR] at h
    cases hk : evalL [] kids with
    | error e => rw [hk] at h; cases h
    | ok vs =>
      rw [hk] at h
      obtain ⟨hs, us, hu, hr⟩ := moves_l name n kids vs hk
      obtain ⟨h1, b, h2, h3⟩ := moved_comb hs hr h
      exact ⟨h1, b, by rw [evalR, hu]; exact h2, h3⟩
theorem moves_l (name : List UInt8) (n : Int) : ∀ (kids : List Ex) (vs : List Va), evalL [] kids = .ok vs → (∀ v, v ∈ vs → v.n = sgn v.n) ∧ ∃ us, evalL [(name, n)] kids = .ok us ∧ MovedL name n vs us
  | [], vs, h => by
    rw [evalL] at h
    injection h with h
    subst h
    exact ⟨fun v hv => by simp at hv, [], by rw [evalL], .nil⟩
  | k :: r, vs, h => by
    rw [evalL] at h
    cases hk : evalR [] k with
    | error e => rw [hk] at h; cases h
    | ok v =>
      rw [hk] at h
      cases hr : evalL [] r with
      | error e => rw [hr] at h; cases h
      | ok ws =>
        rw [hr] at h
        injection h with h
        subst h
        obtain ⟨s1, b, hb, hm⟩ := moves_e name n k v hk
        obtain ⟨s2, us, hu, hl⟩ := moves_l name n r ws hr
        refine ⟨fun x hx => ?_, b :: us, by rw [evalL, hb, hu], .cons hm hl⟩
        rcases List.mem_cons.1 hx with rfl | hx
        · exact s1
        · exact s2 x hx
end

end Go.Proofs.YtagkmgdjkailkaaGreatDoor.Xp
