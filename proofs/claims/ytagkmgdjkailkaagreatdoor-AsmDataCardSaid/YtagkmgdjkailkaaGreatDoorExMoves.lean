/- A place is a place, and so much more: what an expression comes to where a name is a place, and where it is a number. No program in this text. -/
import Derived.Test.YtagkmgdjkailkaaGreatDoorPut11
namespace Go.Proofs.YtagkmgdjkailkaaGreatDoor.Xp
open Go.RowKit

theorem sgn_sgn (n : Int) : sgn (sgn n) = sgn n := by unfold sgn wrap32; omega
theorem sgn_zero : sgn 0 = 0 := by unfold sgn wrap32; omega
theorem no67 {p : Prop} : ¬ ((6 : Int) = 7 ∧ p) := fun c => absurd c.1 (by decide)
theorem sgn_of {n : Int} (h : -2147483648 ≤ n ∧ n < 2147483648) : sgn n = n := by unfold sgn wrap32; omega
theorem sgn_is (n : Int) : -2147483648 ≤ sgn n ∧ sgn n < 2147483648 := by unfold sgn wrap32; omega

theorem wrap_i32 (n : Int) : IntKind.i32.wrap n = wrap32 n := by
  simp [IntKind.wrap, IntKind.bits, IntKind.signed, wrap32]
  split <;> omega

theorem bits_i32 (op : BinOp) (x y : Int) : sgn (bits op .i32 x y) = bits op .i32 x y := by
  unfold bits
  rw [wrap_i32]
  exact sgn_sgn _

theorem opR_sgn (k x y : Int) : opR k x y = sgn (opR k x y) := by
  unfold opR
  split
  · exact (sgn_sgn _).symm
  split
  · exact (sgn_sgn _).symm
  split
  · exact (sgn_sgn _).symm
  split
  · exact (sgn_sgn _).symm
  split
  · exact (sgn_sgn _).symm
  split
  · exact (bits_i32 _ _ _).symm
  · exact (bits_i32 _ _ _).symm

/-- What a name's number makes of what came of an expression. -/
def Moved (name : List UInt8) (n : Int) (a b : Va) : Prop :=
  if name = [] then b.name = a.name else if a.name = name then b = ⟨[], sgn (a.n + n)⟩ else b = a

theorem moved_plain {name : List UInt8} {n : Int} {a b : Va} (h : Moved name n a b) (ha : a.name = []) : b.name = [] ∧ (name ≠ [] → b = a) := by
  unfold Moved at h
  by_cases hn : name = []
  · rw [if_pos hn] at h
    exact ⟨h.trans ha, fun h1 => absurd hn h1⟩
  · rw [if_neg hn, if_neg (by rw [ha]; exact fun e => hn e.symm)] at h
    exact ⟨h ▸ ha, fun _ => h⟩

theorem moved_of {name : List UInt8} {n : Int} {a b : Va} (h0 : name = [] → b.name = a.name) (h1 : name ≠ [] → a.name = name → b = ⟨[], sgn (a.n + n)⟩) (h2 : name ≠ [] → a.name ≠ name → b = a) : Moved name n a b := by
  unfold Moved
  by_cases hn : name = []
  · rw [if_pos hn]; exact h0 hn
  · rw [if_neg hn]
    by_cases ha : a.name = name
    · rw [if_pos ha]; exact h1 hn ha
    · rw [if_neg ha]; exact h2 hn ha

theorem look_one (name nm : List UInt8) (n : Int) : lookE nm [(name, n)] = if name = nm then some n else none := rfl

theorem va_eta (a : Va) : a = ⟨a.name, a.n⟩ := rfl

/-- Two that come to a place, or a number. -/
theorem moved_two {name : List UInt8} {n k : Int} {a1 a2 b1 b2 : Va} {p : List UInt8} (h1 : Moved name n a1 b1) (h2 : Moved name n a2 b2) (s1 : a1.n = sgn a1.n) (s2 : a2.n = sgn a2.n) (hp : placeR k a1.name a2.name = some p) :
    ∃ q, placeR k b1.name b2.name = some q ∧ Moved name n ⟨p, opR k a1.n a2.n⟩ ⟨q, opR k b1.n b2.n⟩ := by
  unfold placeR at hp
  by_cases c0 : a1.name = [] ∧ a2.name = []
  · rw [if_pos c0] at hp
    injection hp with hp
    subst hp
    obtain ⟨e1, f1⟩ := moved_plain h1 c0.1
    obtain ⟨e2, f2⟩ := moved_plain h2 c0.2
    refine ⟨[], by unfold placeR; rw [if_pos ⟨e1, e2⟩], moved_of (fun _ => rfl) (fun hn e => absurd e.symm hn) (fun hn _ => by rw [f1 hn, f2 hn])⟩
  rw [if_neg c0] at hp
  by_cases c1 : k = 7 ∧ a1.name = a2.name
  · rw [if_pos c1] at hp
    injection hp with hp
    subst hp
    obtain ⟨rfl, he⟩ := c1
    have hb : b1.name = b2.name := by
      unfold Moved at h1 h2
      by_cases hn : name = []
      · rw [if_pos hn] at h1 h2; rw [h1, h2, he]
      · rw [if_neg hn] at h1 h2
        by_cases ha : a1.name = name
        · rw [if_pos ha] at h1; rw [if_pos (he ▸ ha)] at h2; rw [h1, h2]
        · rw [if_neg ha] at h1; rw [if_neg (he ▸ ha)] at h2; rw [h1, h2, he]
    refine ⟨[], ?_, moved_of (fun _ => rfl) (fun hn e => absurd e.symm hn) (fun hn _ => ?_)⟩
    · unfold placeR
      by_cases c : b1.name = [] ∧ b2.name = []
      · rw [if_pos c]
      · rw [if_neg c, if_pos ⟨rfl, hb⟩]
    · unfold Moved at h1 h2
      rw [if_neg hn] at h1 h2
      by_cases ha : a1.name = name
      · rw [if_pos ha] at h1
        rw [if_pos (he ▸ ha)] at h2
        rw [h1, h2]
        congr 1
        simp only [opR]
        simp (config := { decide := true }) only [if_false, if_true]
        unfold sgn wrap32
        omega
      · rw [if_neg ha] at h1
        rw [if_neg (he ▸ ha)] at h2
        rw [h1, h2]
  rw [if_neg c1] at hp
  by_cases c2 : k = 7 ∧ a2.name = []
  · rw [if_pos c2] at hp
    injection hp with hp
    subst hp
    obtain ⟨rfl, he⟩ := c2
    obtain ⟨e2, f2⟩ := moved_plain h2 he
    unfold Moved at h1
    by_cases hn : name = []
    · rw [if_pos hn] at h1
      refine ⟨a1.name, ?_, moved_of (fun _ => rfl) (fun h => absurd hn h) (fun h => absurd hn h)⟩
      unfold placeR
      rw [if_neg (by rw [h1, e2]; exact fun c => c0 ⟨c.1, he⟩), if_neg (by rw [h1, e2]; exact fun c => c1 ⟨rfl, by rw [he]; exact c.2⟩), if_pos ⟨rfl, e2⟩, h1]
    · rw [if_neg hn] at h1
      by_cases ha : a1.name = name
      · rw [if_pos ha] at h1
        refine ⟨[], ?_, moved_of (fun h => absurd h hn) (fun _ _ => ?_) (fun _ h => absurd ha h)⟩
        · unfold placeR
          rw [if_pos ⟨by rw [h1], e2⟩]
        · rw [h1, f2 hn]
          congr 1
          simp only [opR]
          simp (config := { decide := true }) only [if_false, if_true]
          unfold sgn wrap32
          omega
      · rw [if_neg ha] at h1
        refine ⟨a1.name, ?_, moved_of (fun h => absurd h hn) (fun _ h => absurd h ha) (fun _ _ => by rw [h1, f2 hn])⟩
        unfold placeR
        rw [h1, if_neg (by rw [e2]; exact fun c => c0 ⟨c.1, he⟩), if_neg (by rw [e2]; exact fun c => c1 ⟨rfl, by rw [he]; exact c.2⟩), if_pos ⟨rfl, e2⟩]
  rw [if_neg c2] at hp
  by_cases c3 : k = 6 ∧ a1.name = []
  · rw [if_pos c3] at hp
    injection hp with hp
    subst hp
    obtain ⟨rfl, he⟩ := c3
    obtain ⟨e1, f1⟩ := moved_plain h1 he
    have hne : a2.name ≠ [] := fun h => c0 ⟨he, h⟩
    unfold Moved at h2
    by_cases hn : name = []
    · rw [if_pos hn] at h2
      refine ⟨a2.name, ?_, moved_of (fun _ => rfl) (fun h => absurd hn h) (fun h => absurd hn h)⟩
      unfold placeR
      rw [if_neg (by rw [h2]; exact fun c => hne c.2), if_neg no67, if_neg no67, if_pos ⟨rfl, e1⟩, h2]
    · rw [if_neg hn] at h2
      by_cases ha : a2.name = name
      · rw [if_pos ha] at h2
        refine ⟨[], ?_, moved_of (fun h => absurd h hn) (fun _ _ => ?_) (fun _ h => absurd ha h)⟩
        · unfold placeR
          rw [if_pos ⟨e1, by rw [h2]⟩]
        · rw [h2, f1 hn]
          congr 1
          simp only [opR]
          simp (config := { decide := true }) only [if_false, if_true]
          unfold sgn wrap32
          omega
      · rw [if_neg ha] at h2
        refine ⟨a2.name, ?_, moved_of (fun h => absurd h hn) (fun _ h => absurd h ha) (fun _ _ => by rw [h2, f1 hn])⟩
        unfold placeR
        rw [h2, if_neg (fun c => hne c.2), if_neg no67, if_neg no67, if_pos ⟨rfl, e1⟩]
  rw [if_neg c3] at hp
  by_cases c4 : k = 6 ∧ a2.name = []
  · rw [if_pos c4] at hp
    injection hp with hp
    subst hp
    obtain ⟨rfl, he⟩ := c4
    obtain ⟨e2, f2⟩ := moved_plain h2 he
    have hne : a1.name ≠ [] := fun h => c0 ⟨h, he⟩
    unfold Moved at h1
    by_cases hn : name = []
    · rw [if_pos hn] at h1
      refine ⟨a1.name, ?_, moved_of (fun _ => rfl) (fun h => absurd hn h) (fun h => absurd hn h)⟩
      unfold placeR
      rw [if_neg (by rw [h1]; exact fun c => hne c.1), if_neg no67, if_neg no67, if_neg (by rw [h1]; exact fun c => hne c.2), if_pos ⟨rfl, e2⟩, h1]
    · rw [if_neg hn] at h1
      by_cases ha : a1.name = name
      · rw [if_pos ha] at h1
        refine ⟨[], ?_, moved_of (fun h => absurd h hn) (fun _ _ => ?_) (fun _ h => absurd ha h)⟩
        · unfold placeR
          rw [if_pos ⟨by rw [h1], e2⟩]
        · rw [h1, f2 hn]
          congr 1
          simp only [opR]
          simp (config := { decide := true }) only [if_false, if_true]
          unfold sgn wrap32
          omega
      · rw [if_neg ha] at h1
        refine ⟨a1.name, ?_, moved_of (fun h => absurd h hn) (fun _ h => absurd h ha) (fun _ _ => by rw [h1, f2 hn])⟩
        unfold placeR
        rw [h1, if_neg (fun c => hne c.1), if_neg no67, if_neg no67, if_neg (fun c => hne c.2), if_pos ⟨rfl, e2⟩]
  rw [if_neg c4] at hp
  cases hp

/-- Each is what the other one has become. -/
inductive MovedL (name : List UInt8) (n : Int) : List Va → List Va → Prop where
  | nil : MovedL name n [] []
  | cons {a b : Va} {r s : List Va} : Moved name n a b → MovedL name n r s → MovedL name n (a :: r) (b :: s)

theorem MovedL.len {name : List UInt8} {n : Int} {a b : List Va} (h : MovedL name n a b) : a.length = b.length := by
  induction h with
  | nil => rfl
  | cons _ _ ih => simp [ih]

theorem moved_comb {name nm : List UInt8} {n m k : Int} {vs us : List Va} {a : Va} (hv : ∀ v, v ∈ vs → v.n = sgn v.n) (h : MovedL name n vs us) (hc : combR [] k m nm vs = .ok a) :
    a.n = sgn a.n ∧ ∃ b, combR [(name, n)] k m nm us = .ok b ∧ Moved name n a b := by
  unfold combR at hc ⊢
  cases h with
  | nil =>
    by_cases h1 : k = 1
    · rw [if_pos ⟨h1, rfl⟩] at hc ⊢
      injection hc with hc
      subst hc
      exact ⟨(sgn_sgn _).symm, _, rfl, moved_of (fun _ => rfl) (fun hn e => absurd e.symm hn) (fun _ _ => rfl)⟩
    · rw [if_neg (fun c => h1 c.1)] at hc ⊢
      by_cases h2 : k = 2
      · rw [if_pos ⟨h2, rfl⟩] at hc ⊢
        simp only [lookE] at hc
        injection hc with hc
        subst hc
        rw [look_one]
        refine ⟨sgn_zero.symm, ?_⟩
        by_cases hn : name = nm
        · rw [if_pos hn]
          refine ⟨_, rfl, moved_of (fun h => by rw [← hn, h]) (fun _ _ => by rw [Int.zero_add]) (fun _ h => absurd hn.symm h)⟩
        · rw [if_neg hn]
          exact ⟨_, rfl, moved_of (fun _ => rfl) (fun _ h => absurd h.symm hn) (fun _ _ => rfl)⟩
      · rw [if_neg (fun c => h2 c.1)] at hc
        cases hc
  | cons h1 hr =>
    rename_i a1 b1 r s
    rw [if_neg (fun c => by cases c.2), if_neg (fun c => by cases c.2)] at hc ⊢
    cases hr with
    | nil =>
      simp only at hc ⊢
      by_cases hk : k = 3 ∨ k = 4
      · rw [if_pos hk] at hc ⊢
        by_cases hp : a1.name = []
        · rw [if_pos hp] at hc
          injection hc with hc
          subst hc
          obtain ⟨e1, f1⟩ := moved_plain h1 hp
          rw [if_pos e1]
          exact ⟨(sgn_sgn _).symm, _, rfl, moved_of (fun _ => rfl) (fun hn e => absurd e.symm hn) (fun hn _ => by rw [f1 hn])⟩
        · rw [if_neg hp] at hc
          cases hc
      · rw [if_neg hk] at hc
        cases hc
    | cons h2 hr =>
      rename_i a2 b2 r s
      cases hr with
      | nil =>
        simp only at hc ⊢
        by_cases hk : 5 ≤ k ∧ k ≤ 11
        · rw [if_pos hk] at hc ⊢
          cases hp : placeR k a1.name a2.name with
          | none => rw [hp] at hc; cases hc
          | some p =>
            rw [hp] at hc
            injection hc with hc
            subst hc
            obtain ⟨q, hq, hm⟩ := moved_two h1 h2 (hv a1 (by simp)) (hv a2 (by simp)) hp
            rw [hq]
            exact ⟨opR_sgn _ _ _, _, rfl, hm⟩
        · rw [if_neg hk] at hc
          cases hc
      | cons h3 hr =>
        simp only at hc
        cases hc

mutual
theorem moves_e (name : List UInt8) (n : Int) : ∀ (e : Ex) (a : Va), evalR [] e = .ok a → a.n = sgn a.n ∧ ∃ b, evalR [(name, n)] e = .ok b ∧ Moved name n a b
  | .mk kind m nm kids, a, h => by
    rw [evalR] at h
    cases hk : evalL [] kids with
    | error e => rw [hk] at h; cases h
    | ok vs =>
      rw [hk] at h
      obtain ⟨hs, us, hu, hr⟩ := moves_l name n kids vs hk
      obtain ⟨h1, b, h2, h3⟩ := moved_comb hs hr h
      exact ⟨h1, b, by rw [evalR, hu]; exact h2, h3⟩
theorem moves_l (name : List UInt8) (n : Int) : ∀ (kids : List Ex) (vs : List Va), evalL [] kids = .ok vs → (∀ v, v ∈ vs → v.n = sgn v.n) ∧ ∃ us, evalL [(name, n)] kids = .ok us ∧ MovedL name n vs us
  | [], vs, h => by
    rw [evalL] at h
    injection h with h
    subst h
    exact ⟨fun v hv => by simp at hv, [], by rw [evalL], .nil⟩
  | k :: r, vs, h => by
    rw [evalL] at h
    cases hk : evalR [] k with
    | error e => rw [hk] at h; cases h
    | ok v =>
      rw [hk] at h
      cases hr : evalL [] r with
      | error e => rw [hr] at h; cases h
      | ok ws =>
        rw [hr] at h
        injection h with h
        subst h
        obtain ⟨s1, b, hb, hm⟩ := moves_e name n k v hk
        obtain ⟨s2, us, hu, hl⟩ := moves_l name n r ws hr
        refine ⟨fun x hx => ?_, b :: us, by rw [evalL, hb, hu], .cons hm hl⟩
        rcases List.mem_cons.1 hx with rfl | hx
        · exact s1
        · exact s2 x hx
end

end Go.Proofs.YtagkmgdjkailkaaGreatDoor.Xp
