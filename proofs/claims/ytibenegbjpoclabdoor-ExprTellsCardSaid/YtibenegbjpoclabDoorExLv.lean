/- Reading by layers: what is read of one strength out of what is read of the next stronger one; no program in this text. -/
import Derived.Test.YtibenegbjpoclabDoorExSpec
namespace Go.Proofs.YtibenegbjpoclabDoor
open Go.RowKit

def Pr (deep : Nat) (l : List Tok) (r : Except Int (Ex × List Tok)) : Prop := ∃ f, primeR f deep l = some r
def Lv (s deep : Nat) (l : List Tok) (r : Except Int (Ex × List Tok)) : Prop := ∃ f, climbR f s deep l = some r
def Mo (s deep : Nat) (e : Ex) (l : List Tok) (r : Except Int (Ex × List Tok)) : Prop := ∃ f, moreR f s deep e l = some r

theorem strength_le (s : List UInt8) : (strengthR s).1 ≤ 5 := by
  unfold strengthR
  repeat' split
  all_goals decide

theorem Lv.of {s deep : Nat} {l l' : List Tok} {e : Ex} {r} (h : Pr deep l (.ok (e, l'))) (hm : Mo s deep e l' r) : Lv s deep l r := by
  obtain ⟨f, hf⟩ := h
  obtain ⟨g, hg⟩ := hm
  refine ⟨f + g + 1, ?_⟩
  rw [climbR, prime_le (show f ≤ f + g by omega) hf]
  exact rest_le (by omega) hg
theorem Lv.bad {s deep : Nat} {l : List Tok} {x : Int} (h : Pr deep l (.error x)) : Lv s deep l (.error x) := by
  obtain ⟨f, hf⟩ := h
  exact ⟨f + 1, by rw [climbR, hf]⟩
theorem Mo.stop {s deep : Nat} {e : Ex} {l : List Tok} (h : (strengthR (signOf l)).1 < s) : Mo s deep e l (.ok (e, l)) := ⟨1, by rw [moreR, if_pos h]⟩
theorem Mo.bad {s deep : Nat} {e : Ex} {l : List Tok} {x : Int} (h : ¬ (strengthR (signOf l)).1 < s) (hl : Lv ((strengthR (signOf l)).1 + 1) deep l.tail (.error x)) : Mo s deep e l (.error x) := by
  obtain ⟨f, hf⟩ := hl
  exact ⟨f + 1, by rw [moreR, if_neg h, hf]⟩
theorem Mo.step {s deep : Nat} {e k : Ex} {l l' : List Tok} {r} (h : ¬ (strengthR (signOf l)).1 < s) (hl : Lv ((strengthR (signOf l)).1 + 1) deep l.tail (.ok (k, l')))
    (hm : Mo s deep (.mk (strengthR (signOf l)).2 0 [] [e, k]) l' r) : Mo s deep e l r := by
  obtain ⟨f, hf⟩ := hl
  obtain ⟨g, hg⟩ := hm
  refine ⟨f + g + 1, ?_⟩
  rw [moreR, if_neg h, climb_le (show f ≤ f + g by omega) hf]
  exact rest_le (by omega) hg

theorem Lv.six {deep : Nat} {l : List Tok} {r} (h : Pr deep l r) : Lv 6 deep l r := by
  cases r with
  | error x => exact .bad h
  | ok y => exact .of h (.stop (by have := strength_le (signOf y.2); omega))

theorem stop_all : ∀ (f : Nat), (∀ s deep l e r, climbR f s deep l = some (.ok (e, r)) → (strengthR (signOf r)).1 < s) ∧ (∀ s deep k l e r, moreR f s deep k l = some (.ok (e, r)) → (strengthR (signOf r)).1 < s)
  | 0 => ⟨fun _ _ _ _ _ h => by simp [climbR] at h, fun _ _ _ _ _ _ h => by simp [moreR] at h⟩
  | f + 1 => by
    obtain ⟨i1, i2⟩ := stop_all f
    refine ⟨fun s deep l e r h => ?_, fun s deep k l e r h => ?_⟩
    · rw [climbR] at h
      cases hp : primeR f deep l with
      | none => rw [hp] at h; cases h
      | some x =>
        rw [hp] at h
        cases x with
        | error e => cases h
        | ok y => exact i2 _ _ _ _ _ _ h
    · rw [moreR] at h
      by_cases h6 : (strengthR (signOf l)).1 < s
      · rw [if_pos h6] at h
        injection h with h
        injection h with h
        injection h with h1 h2
        subst h1 h2
        exact h6
      rw [if_neg h6] at h
      cases hp : climbR f ((strengthR (signOf l)).1 + 1) deep l.tail with
      | none => rw [hp] at h; cases h
      | some x =>
        rw [hp] at h
        cases x with
        | error e => cases h
        | ok y => exact i2 _ _ _ _ _ _ h
theorem Lv.stop {s deep : Nat} {l l' : List Tok} {e : Ex} (h : Lv s deep l (.ok (e, l'))) : (strengthR (signOf l')).1 < s := by
  obtain ⟨f, hf⟩ := h
  exact (stop_all f).1 _ _ _ _ _ hf

theorem more_on : ∀ (f s deep : Nat) (e : Ex) (l : List Tok),
    (∀ x, moreR f (s + 1) deep e l = some (.error x) → Mo s deep e l (.error x)) ∧
    (∀ k l' r, moreR f (s + 1) deep e l = some (.ok (k, l')) → Mo s deep k l' r → Mo s deep e l r)
  | 0, _, _, _, _ => ⟨fun _ h => by simp [moreR] at h, fun _ _ _ h => by simp [moreR] at h⟩
  | f + 1, s, deep, e, l => by
    by_cases h6 : (strengthR (signOf l)).1 < s + 1
    · refine ⟨fun x h => ?_, fun k l' r h hm => ?_⟩
      · rw [moreR, if_pos h6] at h; cases h
      · rw [moreR, if_pos h6] at h
        injection h with h
        injection h with h
        injection h with h1 h2
        subst h1 h2
        exact hm
    · have h7 : ¬ (strengthR (signOf l)).1 < s := by omega
      refine ⟨fun x h => ?_, fun k l' r h hm => ?_⟩
      · rw [moreR, if_neg h6] at h
        cases hp : climbR f ((strengthR (signOf l)).1 + 1) deep l.tail with
        | none => rw [hp] at h; cases h
        | some y =>
          rw [hp] at h
          cases y with
          | error z => injection h with h; exact h ▸ .bad h7 ⟨f, hp⟩
          | ok y => exact .step h7 ⟨f, hp⟩ ((more_on f s deep _ _).1 _ h)
      · rw [moreR, if_neg h6] at h
        cases hp : climbR f ((strengthR (signOf l)).1 + 1) deep l.tail with
        | none => rw [hp] at h; cases h
        | some y =>
          rw [hp] at h
          cases y with
          | error z => cases h
          | ok y => exact .step h7 ⟨f, hp⟩ ((more_on f s deep _ _).2 _ _ _ h hm)

theorem Lv.err {s deep : Nat} {l : List Tok} {x : Int} (h : Lv (s + 1) deep l (.error x)) : Lv s deep l (.error x) := by
  obtain ⟨f, hf⟩ := h
  cases f with
  | zero => simp [climbR] at hf
  | succ f =>
    rw [climbR] at hf
    cases hp : primeR f deep l with
    | none => rw [hp] at hf; cases hf
    | some y =>
      rw [hp] at hf
      cases y with
      | error z => injection hf with hf; exact hf ▸ .bad ⟨f, hp⟩
      | ok y => exact .of ⟨f, hp⟩ ((more_on f s deep _ _).1 _ hf)
theorem Lv.on {s deep : Nat} {l l' : List Tok} {e : Ex} {r} (h : Lv (s + 1) deep l (.ok (e, l'))) (hm : Mo s deep e l' r) : Lv s deep l r := by
  obtain ⟨f, hf⟩ := h
  cases f with
  | zero => simp [climbR] at hf
  | succ f =>
    rw [climbR] at hf
    cases hp : primeR f deep l with
    | none => rw [hp] at hf; cases hf
    | some y =>
      rw [hp] at hf
      cases y with
      | error z => cases hf
      | ok y => exact .of ⟨f, hp⟩ ((more_on f s deep _ _).2 _ _ _ hf hm)

theorem Pr.deep {deep : Nat} {l : List Tok} (h : 6 < deep) : Pr deep l (.error 10) := ⟨1, by rw [primeR, if_pos h]⟩
theorem Pr.neg {deep : Nat} {l : List Tok} {k : Ex} {r : List Tok} (h : ¬ 6 < deep) (hs : signOf l = [45]) (hk : Pr (deep + 1) l.tail (.ok (k, r))) : Pr deep l (.ok (.mk 3 0 [] [k], r)) := by
  obtain ⟨f, hf⟩ := hk
  exact ⟨f + 1, by rw [primeR, if_neg h, if_pos hs, hf]⟩
theorem Pr.not {deep : Nat} {l : List Tok} {k : Ex} {r : List Tok} (h : ¬ 6 < deep) (hs : signOf l = [126]) (hk : Pr (deep + 1) l.tail (.ok (k, r))) : Pr deep l (.ok (.mk 4 0 [] [k], r)) := by
  obtain ⟨f, hf⟩ := hk
  exact ⟨f + 1, by rw [primeR, if_neg h, if_neg (by rw [hs]; decide), if_pos hs, hf]⟩
theorem Pr.one {deep : Nat} {l : List Tok} {x : Int} (h : ¬ 6 < deep) (hs : signOf l = [45] ∨ signOf l = [126]) (hk : Pr (deep + 1) l.tail (.error x)) : Pr deep l (.error x) := by
  obtain ⟨f, hf⟩ := hk
  rcases hs with hs | hs
  · exact ⟨f + 1, by rw [primeR, if_neg h, if_pos hs, hf]⟩
  · exact ⟨f + 1, by rw [primeR, if_neg h, if_neg (by rw [hs]; decide), if_pos hs, hf]⟩
theorem Pr.brack {deep : Nat} {l : List Tok} {k : Ex} {r : List Tok} (h : ¬ 6 < deep) (hs : signOf l = [40]) (hk : Lv 1 (deep + 1) l.tail (.ok (k, r))) (hr : signOf r = [41]) : Pr deep l (.ok (k, r.tail)) := by
  obtain ⟨f, hf⟩ := hk
  refine ⟨f + 1, ?_⟩
  rw [primeR, if_neg h, if_neg (by rw [hs]; decide), if_neg (by rw [hs]; decide), if_pos hs, hf]
  simp only [if_pos hr]
theorem Pr.unshut {deep : Nat} {l : List Tok} {k : Ex} {r : List Tok} (h : ¬ 6 < deep) (hs : signOf l = [40]) (hk : Lv 1 (deep + 1) l.tail (.ok (k, r))) (hr : ¬ signOf r = [41]) : Pr deep l (.error 2) := by
  obtain ⟨f, hf⟩ := hk
  refine ⟨f + 1, ?_⟩
  rw [primeR, if_neg h, if_neg (by rw [hs]; decide), if_neg (by rw [hs]; decide), if_pos hs, hf]
  simp only [if_neg hr]
theorem Pr.inner {deep : Nat} {l : List Tok} {x : Int} (h : ¬ 6 < deep) (hs : signOf l = [40]) (hk : Lv 1 (deep + 1) l.tail (.error x)) : Pr deep l (.error x) := by
  obtain ⟨f, hf⟩ := hk
  exact ⟨f + 1, by rw [primeR, if_neg h, if_neg (by rw [hs]; decide), if_neg (by rw [hs]; decide), if_pos hs, hf]⟩
theorem Pr.leaf {deep : Nat} {l : List Tok} (h : ¬ 6 < deep) (h1 : ¬ signOf l = [45]) (h2 : ¬ signOf l = [126]) (h3 : ¬ signOf l = [40]) : Pr deep l (leafR l) := ⟨1, by rw [primeR, if_neg h, if_neg h1, if_neg h2, if_neg h3]⟩

end Go.Proofs.YtibenegbjpoclabDoor
