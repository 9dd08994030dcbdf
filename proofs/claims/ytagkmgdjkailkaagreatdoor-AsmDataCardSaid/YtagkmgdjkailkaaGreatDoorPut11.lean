/- What an expression is, how tokens are read as one, and what it comes to: functions of lists; no program in this text. Expressions, values and names' numbers in memory. Reading by layers: what is read of one strength out of what is read of the next stronger one; no program in this text. -/
import Derived.Test.YtagkmgdjkailkaaGreatDoorXBase
namespace Go.Proofs.YtagkmgdjkailkaaGreatDoor.Xp
open Go.RowKit

inductive Ex where
  | mk (kind n : Int) (name : List UInt8) (kids : List Ex)

structure Va where
  name : List UInt8
  n : Int

/-- A number of 32 bits. -/
def sgn (n : Int) : Int := wrap32 n

/-- The sign that tokens begin with; empty: none. -/
def signOf : List Tok → List UInt8
  | [] => []
  | t :: _ => if t.kind = 3 then t.text else []

/-- How a sign binds, and its kind; 0: it is none between two. -/
def strengthR (s : List UInt8) : Nat × Int :=
  if s = [124] then (1, 11)
  else if s = [38] then (2, 10)
  else if s = [60, 60] then (3, 8)
  else if s = [62, 62] then (3, 9)
  else if s = [43] then (4, 6)
  else if s = [45] then (4, 7)
  else if s = [42] then (5, 5)
  else (0, 0)

/-- What one token alone is. -/
def leafR : List Tok → Except Int (Ex × List Tok)
  | [] => .error 9
  | t :: r =>
    if t.kind = 2 then .ok (.mk 1 (sgn t.n) [] [], r)
    else if t.kind ≠ 1 then .error 2
    else if nameR t.text = true then .ok (.mk 2 0 t.text [], r)
    else .error 7

abbrev Res := Option (Except Int (Ex × List Tok))

mutual
/-- What has no sign between; f: how far to look. -/
def primeR : Nat → Nat → List Tok → Res
  | 0, _, _ => none
  | f + 1, deep, l =>
    if 6 < deep then some (.error 10)
    else if signOf l = [45] then
      match primeR f (deep + 1) l.tail with
      | none => none
      | some (.error e) => some (.error e)
      | some (.ok (k, r)) => some (.ok (.mk 3 0 [] [k], r))
    else if signOf l = [126] then
      match primeR f (deep + 1) l.tail with
      | none => none
      | some (.error e) => some (.error e)
      | some (.ok (k, r)) => some (.ok (.mk 4 0 [] [k], r))
    else if signOf l = [40] then
      match climbR f 1 (deep + 1) l.tail with
      | none => none
      | some (.error e) => some (.error e)
      | some (.ok (k, r)) => if signOf r = [41] then some (.ok (k, r.tail)) else some (.error 2)
    else some (leafR l)
/-- Signs of a strength, or more. -/
def climbR : Nat → Nat → Nat → List Tok → Res
  | 0, _, _, _ => none
  | f + 1, least, deep, l =>
    match primeR f deep l with
    | none => none
    | some (.error e) => some (.error e)
    | some (.ok (k, r)) => moreR f least deep k r
/-- .. behind a first one. -/
def moreR : Nat → Nat → Nat → Ex → List Tok → Res
  | 0, _, _, _, _ => none
  | f + 1, least, deep, e, l =>
    if (strengthR (signOf l)).1 < least then some (.ok (e, l))
    else
      match climbR f ((strengthR (signOf l)).1 + 1) deep l.tail with
      | none => none
      | some (.error x) => some (.error x)
      | some (.ok (k, r)) => moreR f least deep (.mk (strengthR (signOf l)).2 0 [] [e, k]) r
end

theorem more_all : ∀ (f : Nat),
    (∀ deep l r, primeR f deep l = some r → primeR (f + 1) deep l = some r) ∧
    (∀ least deep l r, climbR f least deep l = some r → climbR (f + 1) least deep l = some r) ∧
    (∀ least deep e l r, moreR f least deep e l = some r → moreR (f + 1) least deep e l = some r)
  | 0 => ⟨fun _ _ _ h => by simp [primeR] at h, fun _ _ _ _ h => by simp [climbR] at h, fun _ _ _ _ _ h => by simp [moreR] at h⟩
  | f + 1 => by
    obtain ⟨i1, i2, i3⟩ := more_all f
    refine ⟨fun deep l r h => ?_, fun least deep l r h => ?_, fun least deep e l r h => ?_⟩
    · rw [primeR] at h ⊢
      by_cases h6 : 6 < deep
      · rw [if_pos h6] at h ⊢; exact h
      rw [if_neg h6] at h ⊢
      by_cases ha : signOf l = [45]
      · rw [if_pos ha] at h ⊢
        cases hp : primeR f (deep + 1) l.tail with
        | none => rw [hp] at h; cases h
        | some x => rw [hp] at h; rw [i1 _ _ _ hp]; exact h
      rw [if_neg ha] at h ⊢
      by_cases hb : signOf l = [126]
      · rw [if_pos hb] at h ⊢
        cases hp : primeR f (deep + 1) l.tail with
        | none => rw [hp] at h; cases h
        | some x => rw [hp] at h; rw [i1 _ _ _ hp]; exact h
      rw [if_neg hb] at h ⊢
      by_cases hc : signOf l = [40]
      · rw [if_pos hc] at h ⊢
        cases hp : climbR f 1 (deep + 1) l.tail with
        | none => rw [hp] at h; cases h
        | some x => rw [hp] at h; rw [i2 _ _ _ _ hp]; exact h
      rw [if_neg hc] at h ⊢
      exact h
    · rw [climbR] at h ⊢
      cases hp : primeR f deep l with
      | none => rw [hp] at h; cases h
      | some x =>
        rw [hp] at h
        rw [i1 _ _ _ hp]
        cases x with
        | error e => exact h
        | ok y => exact i3 _ _ _ _ _ h
    · rw [moreR] at h ⊢
      by_cases h6 : (strengthR (signOf l)).1 < least
      · rw [if_pos h6] at h ⊢; exact h
      rw [if_neg h6] at h ⊢
      cases hp : climbR f ((strengthR (signOf l)).1 + 1) deep l.tail with
      | none => rw [hp] at h; cases h
      | some x =>
        rw [hp] at h
        rw [i2 _ _ _ _ hp]
        cases x with
        | error e => exact h
        | ok y => exact i3 _ _ _ _ _ h

theorem prime_le {f g deep : Nat} {l : List Tok} {r} (hfg : f ≤ g) (h : primeR f deep l = some r) : primeR g deep l = some r := by
  induction g with
  | zero => obtain rfl : f = 0 := by omega
            exact h
  | succ g ih =>
    by_cases e : f = g + 1
    · subst e; exact h
    · exact (more_all g).1 _ _ _ (ih (by omega))
theorem climb_le {f g least deep : Nat} {l : List Tok} {r} (hfg : f ≤ g) (h : climbR f least deep l = some r) : climbR g least deep l = some r := by
  induction g with
  | zero => obtain rfl : f = 0 := by omega
            exact h
  | succ g ih =>
    by_cases e : f = g + 1
    · subst e; exact h
    · exact (more_all g).2.1 _ _ _ _ (ih (by omega))
theorem rest_le {f g least deep : Nat} {k : Ex} {l : List Tok} {r} (hfg : f ≤ g) (h : moreR f least deep k l = some r) : moreR g least deep k l = some r := by
  induction g with
  | zero => obtain rfl : f = 0 := by omega
            exact h
  | succ g ih =>
    by_cases e : f = g + 1
    · subst e; exact h
    · exact (more_all g).2.2 _ _ _ _ _ (ih (by omega))

/-- What tokens begin with. -/
def Parses (l : List Tok) (r : Except Int (Ex × List Tok)) : Prop := ∃ f, climbR f 1 0 l = some r
theorem Parses.same {l : List Tok} {a b} (ha : Parses l a) (hb : Parses l b) : a = b := by
  obtain ⟨f, hf⟩ := ha
  obtain ⟨g, hg⟩ := hb
  have h1 := climb_le (Nat.le_max_left f g) hf
  have h2 := climb_le (Nat.le_max_right f g) hg
  rw [h1] at h2
  exact Option.some.inj h2

/-- A name's number: the first one counts. -/
def lookE (name : List UInt8) : List (List UInt8 × Int) → Option Int
  | [] => none
  | x :: r => if x.1 = name then some x.2 else lookE name r

/-- Two numbers of 32 bits. -/
def opR (kind x y : Int) : Int :=
  if kind = 5 then wrap32 (x * y)
  else if kind = 6 then wrap32 (x + y)
  else if kind = 7 then wrap32 (x - y)
  else if kind = 8 then wrap32 ((x % 4294967296) * 2 ^ ((y % 4294967296) % 32).toNat)
  else if kind = 9 then wrap32 ((x % 4294967296) / 2 ^ ((y % 4294967296) % 32).toNat)
  else if kind = 10 then bits .and .i32 x y
  else bits .or .i32 x y

/-- The place that two come to, if they may. -/
def placeR (kind : Int) (a b : List UInt8) : Option (List UInt8) :=
  if a = [] ∧ b = [] then some []
  else if kind = 7 ∧ a = b then some []
  else if kind = 7 ∧ b = [] then some a
  else if kind = 6 ∧ a = [] then some b
  else if kind = 6 ∧ b = [] then some a
  else none

/-- What comes of an expression whose parts have come to vs. -/
def combR (equs : List (List UInt8 × Int)) (kind n : Int) (name : List UInt8) (vs : List Va) : Except Int Va :=
  if kind = 1 ∧ vs = [] then .ok ⟨[], sgn n⟩
  else if kind = 2 ∧ vs = [] then
    match lookE name equs with
    | some x => .ok ⟨[], sgn x⟩
    | none => .ok ⟨name, 0⟩
  else match vs with
    | [a] => if kind = 3 ∨ kind = 4 then (if a.name = [] then .ok ⟨[], sgn (if kind = 4 then -a.n - 1 else -a.n)⟩ else .error 8) else .error 1
    | [a, b] => if 5 ≤ kind ∧ kind ≤ 11 then
        match placeR kind a.name b.name with
        | some p => .ok ⟨p, opR kind a.n b.n⟩
        | none => .error 8
      else .error 1
    | _ => .error 1

mutual
def evalR (equs : List (List UInt8 × Int)) : Ex → Except Int Va
  | .mk kind n name kids => match evalL equs kids with
    | .error e => .error e
    | .ok vs => combR equs kind n name vs
def evalL (equs : List (List UInt8 × Int)) : List Ex → Except Int (List Va)
  | [] => .ok []
  | k :: r => match evalR equs k with
    | .error e => .error e
    | .ok v => match evalL equs r with
      | .error e => .error e
      | .ok vs => .ok (v :: vs)
end

end Go.Proofs.YtagkmgdjkailkaaGreatDoor.Xp

namespace Go.Proofs.YtagkmgdjkailkaaGreatDoor.Xp
open Go.RowKit

def Ex.kind : Ex → Int | .mk k _ _ _ => k
def Ex.n : Ex → Int | .mk _ n _ _ => n
def Ex.name : Ex → List UInt8 | .mk _ _ t _ => t
def Ex.kids : Ex → List Ex | .mk _ _ _ ks => ks
theorem Ex.eta (e : Ex) : e = .mk e.kind e.n e.name e.kids := by cases e; rfl

/-- An expression's value, kv its Kids. -/
def exV (e : Ex) (kv : Value) : Value := .agg #[.int .i64 e.kind, .int .i64 e.n, .string ⟨e.name.toArray⟩, kv]

/-- The slice reads as those expressions, all in blocks of which p holds. -/
inductive KR (w : World) (p : Nat → Prop) : Value → List Ex → Prop where
  | mk (ad : Option Addr) (cap : Nat) (ks : List Ex) (vi : Nat → Value) (hm : ks.length ≤ 2513169434843)
      (hc : 0 < ks.length → ∃ b o, ad = some ⟨b, o, none⟩ ∧ p b ∧ b < w.heap.size ∧ ∀ i (h : i < ks.length),
        w.cell? ⟨b, o + i * 4, none⟩ = some (.int .i64 ks[i].kind) ∧ w.cell? ⟨b, o + i * 4 + 1, none⟩ = some (.int .i64 ks[i].n) ∧ w.cell? ⟨b, o + i * 4 + 2, none⟩ = some (.string ⟨ks[i].name.toArray⟩) ∧ w.cell? ⟨b, o + i * 4 + 3, none⟩ = some (vi i))
      (hk : ∀ i (h : i < ks.length), KR w p (vi i) ks[i].kids) : KR w p (.slice ad ks.length cap) ks

theorem KR.keep {w w' : World} {p q : Nat → Prop} {v : Value} {ks : List Ex} (h : KR w p v ks) (hs : ∀ b, p b → b < w.heap.size → q b ∧ b < w'.heap.size ∧ ∀ o, w'.cell? ⟨b, o, none⟩ = w.cell? ⟨b, o, none⟩) : KR w' q v ks := by
  induction h with
  | mk ad cap ks vi hm hc hk ih =>
    refine .mk ad cap ks vi hm (fun h0 => ?_) ih
    obtain ⟨b, o, e, hp, hb, hcs⟩ := hc h0
    obtain ⟨s1, s2, s3⟩ := hs b hp hb
    refine ⟨b, o, e, s1, s2, fun i hi => ?_⟩
    obtain ⟨c0, c1, c2, c3⟩ := hcs i hi
    rw [s3, s3, s3, s3]
    exact ⟨c0, c1, c2, c3⟩

theorem KR.under {w w' : World} {p : Nat → Prop} {B : Nat} {v : Value} {ks : List Ex} (h : KR w p v ks) (hb : Below B w w') (hB : w.heap.size ≤ B) : KR w' p v ks :=
  h.keep fun b hp hlt => ⟨hp, Nat.lt_of_lt_of_le hlt hb.size, fun o => hb.cell (by show b < B; omega)⟩

theorem KR.nil (w : World) (p : Nat → Prop) : KR w p (.slice none 0 0) [] :=
  .mk none 0 [] (fun _ => .slice none 0 0) (by simp) (fun h => by simp at h) (fun i h => by simp at h)

theorem KR.shape {w : World} {p : Nat → Prop} {v : Value} {ks : List Ex} (h : KR w p v ks) : ∃ ad cap, v = .slice ad ks.length cap := by
  cases h with
  | mk ad cap _ vi hm hc hk => exact ⟨ad, cap, rfl⟩

/-- The slice reads as names and their numbers. -/
def QReads (w : World) (v : Value) (l : List (List UInt8 × Int)) : Prop :=
  ∃ ad cap, v = .slice ad l.length cap ∧ l.length ≤ maxLen ∧ (0 < l.length → ∃ b o, ad = some ⟨b, o, none⟩ ∧ b < w.heap.size ∧ ∀ i (h : i < l.length),
    w.cell? ⟨b, o + i * 2, none⟩ = some (.string ⟨l[i].1.toArray⟩) ∧ w.cell? ⟨b, o + i * 2 + 1, none⟩ = some (.int .i64 l[i].2))

theorem QReads.below {w w' : World} {B : Nat} {v : Value} {l : List (List UInt8 × Int)} (h : QReads w v l) (hb : Below B w w') (hB : w.heap.size ≤ B) : QReads w' v l := by
  obtain ⟨ad, cap, rfl, hm, hc⟩ := h
  refine ⟨ad, cap, rfl, hm, fun h0 => ?_⟩
  obtain ⟨b, o, rfl, hlt, hcell⟩ := hc h0
  refine ⟨b, o, rfl, Nat.lt_of_lt_of_le hlt hb.size, fun i hi => ?_⟩
  rw [hb.cell (by show b < B; omega), hb.cell (by show b < B; omega)]
  exact hcell i hi
theorem QReads.nil (w : World) : QReads w (.slice none 0 0) [] := ⟨none, 0, rfl, Nat.zero_le _, fun h => by simp at h⟩

def vaV (v : Va) : Value := .agg #[.string ⟨v.name.toArray⟩, .int .i64 v.n]
/-- What Eval answers. -/
def evalV : Except Int Va → Value
  | .ok v => .tuple #[vaV v, .int .i64 0]
  | .error x => .tuple #[.agg #[.string ⟨#[]⟩, .int .i64 0], .int .i64 x]

end Go.Proofs.YtagkmgdjkailkaaGreatDoor.Xp

namespace Go.Proofs.YtagkmgdjkailkaaGreatDoor.Xp
open Go.RowKit

def Pr (deep : Nat) (l : List Tok) (r : Except Int (Ex × List Tok)) : Prop := ∃ f, primeR f deep l = some r
def Lv (s deep : Nat) (l : List Tok) (r : Except Int (Ex × List Tok)) : Prop := ∃ f, climbR f s deep l = some r
def Mo (s deep : Nat) (e : Ex) (l : List Tok) (r : Except Int (Ex × List Tok)) : Prop := ∃ f, moreR f s deep e l = some r

theorem strength_le (s : List UInt8) : (strengthR s).1 ≤ 5 := by
  unfold strengthR
  repeat' split
  all_goals decide

theorem Lv.of {s deep : Nat} {l l' : List Tok} {e : Ex} {r} (h : Pr deep l (.ok (e, l'))) (hm : Mo s deep e l' r) : Lv s deep l r := by
  obtain ⟨f, hf⟩ := h
  obtain ⟨g, hg⟩ := hm
  refine ⟨f + g + 1, ?_⟩
  rw [climbR, prime_le (show f ≤ f + g by omega) hf]
  exact rest_le (by omega) hg
theorem Lv.bad {s deep : Nat} {l : List Tok} {x : Int} (h : Pr deep l (.error x)) : Lv s deep l (.error x) := by
  obtain ⟨f, hf⟩ := h
  exact ⟨f + 1, by rw [climbR, hf]⟩
theorem Mo.stop {s deep : Nat} {e : Ex} {l : List Tok} (h : (strengthR (signOf l)).1 < s) : Mo s deep e l (.ok (e, l)) := ⟨1, by rw [moreR, if_pos h]⟩
theorem Mo.bad {s deep : Nat} {e : Ex} {l : List Tok} {x : Int} (h : ¬ (strengthR (signOf l)).1 < s) (hl : Lv ((strengthR (signOf l)).1 + 1) deep l.tail (.error x)) : Mo s deep e l (.error x) := by
  obtain ⟨f, hf⟩ := hl
  exact ⟨f + 1, by rw [moreR, if_neg h, hf]⟩
theorem Mo.step {s deep : Nat} {e k : Ex} {l l' : List Tok} {r} (h : ¬ (strengthR (signOf l)).1 < s) (hl : Lv ((strengthR (signOf l)).1 + 1) deep l.tail (.ok (k, l')))
    (hm : Mo s deep (.mk (strengthR (signOf l)).2 0 [] [e, k]) l' r) : Mo s deep e l r := by
  obtain ⟨f, hf⟩ := hl
  obtain ⟨g, hg⟩ := hm
  refine ⟨f + g + 1, ?_⟩
  rw [moreR, if_neg h, climb_le (show f ≤ f + g by omega) hf]
  exact rest_le (by omega) hg

theorem Lv.six {deep : Nat} {l : List Tok} {r} (h : Pr deep l r) : Lv 6 deep l r := by
  cases r with
  | error x => exact .bad h
  | ok y => exact .of h (.stop (by have := strength_le (signOf y.2); omega))

theorem stop_all : ∀ (f : Nat), (∀ s deep l e r, climbR f s deep l = some (.ok (e, r)) → (strengthR (signOf r)).1 < s) ∧ (∀ s deep k l e r, moreR f s deep k l = some (.ok (e, r)) → (strengthR (signOf r)).1 < s)
  | 0 => ⟨fun _ _ _ _ _ h => by simp [climbR] at h, fun _ _ _ _ _ _ h => by simp [moreR] at h⟩
  | f + 1 => by
    obtain ⟨i1, i2⟩ := stop_all f
    refine ⟨fun s deep l e r h => ?_, fun s deep k l e r h => ?_⟩
    · rw [climbR] at h
      cases hp : primeR f deep l with
      | none => rw [hp] at h; cases h
      | some x =>
        rw [hp] at h
        cases x with
        | error e => cases h
        | ok y => exact i2 _ _ _ _ _ _ h
    · rw [moreR] at h
      by_cases h6 : (strengthR (signOf l)).1 < s
      · rw [if_pos h6] at h
        injection h with h
        injection h with h
        injection h with h1 h2
        subst h1 h2
        exact h6
      rw [if_neg h6] at h
      cases hp : climbR f ((strengthR (signOf l)).1 + 1) deep l.tail with
      | none => rw [hp] at h; cases h
      | some x =>
        rw [hp] at h
        cases x with
        | error e => cases h
        | ok y => exact i2 _ _ _ _ _ _ h
theorem Lv.stop {s deep : Nat} {l l' : List Tok} {e : Ex} (h : Lv s deep l (.ok (e, l'))) : (strengthR (signOf l')).1 < s := by
  obtain ⟨f, hf⟩ := h
  exact (stop_all f).1 _ _ _ _ _ hf

theorem more_on : ∀ (f s deep : Nat) (e : Ex) (l : List Tok),
    (∀ x, moreR f (s + 1) deep e l = some (.error x) → Mo s deep e l (.error x)) ∧
    (∀ k l' r, moreR f (s + 1) deep e l = some (.ok (k, l')) → Mo s deep k l' r → Mo s deep e l r)
  | 0, _, _, _, _ => ⟨fun _ h => by simp [moreR] at h, fun _ _ _ h => by simp [moreR] at h⟩
  | f + 1, s, deep, e, l => by
    by_cases h6 : (strengthR (signOf l)).1 < s + 1
    · refine ⟨fun x h => ?_, fun k l' r h hm => ?_⟩
      · rw [moreR, if_pos h6] at h; cases h
      · rw [moreR, if_pos h6] at h
        injection h with h
        injection h with h
        injection h with h1 h2
        subst h1 h2
        exact hm
    · have h7 : ¬ (strengthR (signOf l)).1 < s := by omega
      refine ⟨fun x h => ?_, fun k l' r h hm => ?_⟩
      · rw [moreR, if_neg h6] at h
        cases hp : climbR f ((strengthR (signOf l)).1 + 1) deep l.tail with
        | none => rw [hp] at h; cases h
        | some y =>
          rw [hp] at h
          cases y with
          | error z => injection h with h; exact h ▸ .bad h7 ⟨f, hp⟩
          | ok y => exact .step h7 ⟨f, hp⟩ ((more_on f s deep _ _).1 _ h)
      · rw [moreR, if_neg h6] at h
        cases hp : climbR f ((strengthR (signOf l)).1 + 1) deep l.tail with
        | none => rw [hp] at h; cases h
        | some y =>
          rw [hp] at h
          cases y with
          | error z => cases h
          | ok y => exact .step h7 ⟨f, hp⟩ ((more_on f s deep _ _).2 _ _ _ h hm)

theorem Lv.err {s deep : Nat} {l : List Tok} {x : Int} (h : Lv (s + 1) deep l (.error x)) : Lv s deep l (.error x) := by
  obtain ⟨f, hf⟩ := h
  cases f with
  | zero => simp [climbR] at hf
  | succ f =>
    rw [climbR] at hf
    cases hp : primeR f deep l with
    | none => rw [hp] at hf; cases hf
    | some y =>
      rw [hp] at hf
      cases y with
      | error z => injection hf with hf; exact hf ▸ .bad ⟨f, hp⟩
      | ok y => exact .of ⟨f, hp⟩ ((more_on f s deep _ _).1 _ hf)
theorem Lv.on {s deep : Nat} {l l' : List Tok} {e : Ex} {r} (h : Lv (s + 1) deep l (.ok (e, l'))) (hm : Mo s deep e l' r) : Lv s deep l r := by
  obtain ⟨f, hf⟩ := h
  cases f with
  | zero => simp [climbR] at hf
  | succ f =>
    rw [climbR] at hf
    cases hp : primeR f deep l with
    | none => rw [hp] at hf; cases hf
    | some y =>
      rw [hp] at hf
      cases y with
      | error z => cases hf
      | ok y => exact .of ⟨f, hp⟩ ((more_on f s deep _ _).2 _ _ _ hf hm)

theorem Pr.deep {deep : Nat} {l : List Tok} (h : 6 < deep) : Pr deep l (.error 10) := ⟨1, by rw [primeR, if_pos h]⟩
theorem Pr.neg {deep : Nat} {l : List Tok} {k : Ex} {r : List Tok} (h : ¬ 6 < deep) (hs : signOf l = [45]) (hk : Pr (deep + 1) l.tail (.ok (k, r))) : Pr deep l (.ok (.mk 3 0 [] [k], r)) := by
  obtain ⟨f, hf⟩ := hk
  exact ⟨f + 1, by rw [primeR, if_neg h, if_pos hs, hf]⟩
theorem Pr.not {deep : Nat} {l : List Tok} {k : Ex} {r : List Tok} (h : ¬ 6 < deep) (hs : signOf l = [126]) (hk : Pr (deep + 1) l.tail (.ok (k, r))) : Pr deep l (.ok (.mk 4 0 [] [k], r)) := by
  obtain ⟨f, hf⟩ := hk
  exact ⟨f + 1, by rw [primeR, if_neg h, if_neg (by rw [hs]; decide), if_pos hs, hf]⟩
theorem Pr.one {deep : Nat} {l : List Tok} {x : Int} (h : ¬ 6 < deep) (hs : signOf l = [45] ∨ signOf l = [126]) (hk : Pr (deep + 1) l.tail (.error x)) : Pr deep l (.error x) := by
  obtain ⟨f, hf⟩ := hk
  rcases hs with hs | hs
  · exact ⟨f + 1, by rw [primeR, if_neg h, if_pos hs, hf]⟩
  · exact ⟨f + 1, by rw [primeR, if_neg h, if_neg (by rw [hs]; decide), if_pos hs, hf]⟩
theorem Pr.brack {deep : Nat} {l : List Tok} {k : Ex} {r : List Tok} (h : ¬ 6 < deep) (hs : signOf l = [40]) (hk : Lv 1 (deep + 1) l.tail (.ok (k, r))) (hr : signOf r = [41]) : Pr deep l (.ok (k, r.tail)) := by
  obtain ⟨f, hf⟩ := hk
  refine ⟨f + 1, ?_⟩
  rw [primeR, if_neg h, if_neg (by rw [hs]; decide), if_neg (by rw [hs]; decide), if_pos hs, hf]
  simp only [if_pos hr]
theorem Pr.unshut {deep : Nat} {l : List Tok} {k : Ex} {r : List Tok} (h : ¬ 6 < deep) (hs : signOf l = [40]) (hk : Lv 1 (deep + 1) l.tail (.ok (k, r))) (hr : ¬ signOf r = [41]) : Pr deep l (.error 2) := by
  obtain ⟨f, hf⟩ := hk
  refine ⟨f + 1, ?_⟩
  rw [primeR, if_neg h, if_neg (by rw [hs]; decide), if_neg (by rw [hs]; decide), if_pos hs, hf]
  simp only [if_neg hr]
theorem Pr.inner {deep : Nat} {l : List Tok} {x : Int} (h : ¬ 6 < deep) (hs : signOf l = [40]) (hk : Lv 1 (deep + 1) l.tail (.error x)) : Pr deep l (.error x) := by
  obtain ⟨f, hf⟩ := hk
  exact ⟨f + 1, by rw [primeR, if_neg h, if_neg (by rw [hs]; decide), if_neg (by rw [hs]; decide), if_pos hs, hf]⟩
theorem Pr.leaf {deep : Nat} {l : List Tok} (h : ¬ 6 < deep) (h1 : ¬ signOf l = [45]) (h2 : ¬ signOf l = [126]) (h3 : ¬ signOf l = [40]) : Pr deep l (leafR l) := ⟨1, by rw [primeR, if_neg h, if_neg h1, if_neg h2, if_neg h3]⟩

end Go.Proofs.YtagkmgdjkailkaaGreatDoor.Xp
