/- What an object is, what is wrong with it, its bytes, and the object of bytes: functions of lists; no program in this text. What an image is of objects: functions of lists; no program in this text. -/
import Derived.RowKit
namespace Go.Proofs.YtgjmbjahgcndnaaGreatDoor
open Go.RowKit

structure Sy where
  name : List UInt8
  pos : Int

structure Re where
  pos : Int
  size : Int
  name : List UInt8
  add : Int

structure Ob where
  code : List UInt8
  syms : List Sy
  rels : List Re

/-- What is wrong with a sym, behind others; nm: what a name is. -/
def symErr (nm : List UInt8 → Bool) (len : Nat) (before : List Sy) (s : Sy) : Int :=
  if nm s.name = false then 7
  else if before.any (fun t => decide (t.name = s.name)) = true then 7
  else if s.pos < 0 ∨ (len : Int) < s.pos then 3
  else 0

def symsErr (nm : List UInt8 → Bool) (len : Nat) : List Sy → List Sy → Int
  | _, [] => 0
  | before, s :: r => if symErr nm len before s = 0 then symsErr nm len (before ++ [s]) r else symErr nm len before s

/-- What is wrong with a reloc that may begin at last. -/
def relErr (nm : List UInt8 → Bool) (len : Nat) (last : Int) (r : Re) : Int :=
  if r.size ≠ 2 ∧ r.size ≠ 4 then 1
  else if r.pos < last ∨ 8000 < r.pos ∨ (len : Int) < r.pos + r.size then 3
  else if r.pos % r.size ≠ 0 then 11
  else if r.name ≠ [] ∧ nm r.name = false then 7
  else if r.add ≠ wrap32 r.add then 3
  else 0

def relsErr (nm : List UInt8 → Bool) (len : Nat) : Int → List Re → Int
  | _, [] => 0
  | last, r :: l => if relErr nm len last r = 0 then relsErr nm len (r.pos + r.size) l else relErr nm len last r

def wrongO (nm : List UInt8 → Bool) (o : Ob) : Int :=
  if 8000 < o.code.length ∨ 255 < o.syms.length ∨ 16000 < o.rels.length then 4
  else if symsErr nm o.code.length [] o.syms = 0 then relsErr nm o.code.length 0 o.rels
  else symsErr nm o.code.length [] o.syms

/-- A number's lowest byte, and its lowest four, the uppermost one first. -/
def lowB (n : Int) : UInt8 := UInt8.ofNat (n % 256).toNat
def be4 (n : Int) : List UInt8 := [lowB (n / 16777216), lowB (n / 65536), lowB (n / 256), lowB n]

/-! There, and back. -/

theorem lowB_nat (n : Int) : ((lowB n).toNat : Int) = n % 256 := by
  have h0 : 0 ≤ n % 256 := Int.emod_nonneg _ (by decide)
  have h1 : n % 256 < 256 := Int.emod_lt_of_pos _ (by decide)
  unfold lowB
  rw [UInt8.toNat_ofNat']
  omega
theorem symErr_ok {nm : List UInt8 → Bool} {len : Nat} {before : List Sy} {s : Sy} (h : symErr nm len before s = 0) : nm s.name = true ∧ 0 ≤ s.pos ∧ s.pos ≤ len := by
  unfold symErr at h
  split at h
  · cases h
  · rename_i h1
    split at h
    · cases h
    · split at h
      · cases h
      · exact ⟨by simpa using h1, by omega, by omega⟩
theorem symsErr_ok {nm : List UInt8 → Bool} {len : Nat} : ∀ (l before : List Sy), symsErr nm len before l = 0 → ∀ s, s ∈ l → nm s.name = true ∧ 0 ≤ s.pos ∧ s.pos ≤ len
  | [], _, _, s, hs => by cases hs
  | x :: l, before, h, s, hs => by
    unfold symsErr at h
    split at h
    · rename_i h0
      rcases List.mem_cons.1 hs with rfl | hs
      · exact symErr_ok h0
      · exact symsErr_ok l _ h s hs
    · rename_i h0; exact absurd h h0
theorem relErr_ok {nm : List UInt8 → Bool} {len : Nat} {last : Int} {r : Re} (h : relErr nm len last r = 0) : (r.size = 2 ∨ r.size = 4) ∧ last ≤ r.pos ∧ r.pos ≤ 8000 ∧ (r.name = [] ∨ nm r.name = true) ∧ r.add = wrap32 r.add := by
  unfold relErr at h
  split at h
  · cases h
  · split at h
    · cases h
    · split at h
      · cases h
      · split at h
        · cases h
        · rename_i h4
          split at h
          · cases h
          · rename_i h1 h2 h3 h5
            refine ⟨by omega, by omega, by omega, ?_, by simpa using h5⟩
            by_cases e : r.name = []
            · exact .inl e
            · exact .inr (by simpa [e] using h4)
end Go.Proofs.YtgjmbjahgcndnaaGreatDoor

namespace Go.Proofs.YtgjmbjahgcndnaaGreatDoor.Li
open Go.RowKit

/-- The next multiple of four. -/
def up4 (n : Int) : Int := n + (-n) % 4
theorem up4_of {n : Int} (h : n % 4 = 0) : up4 n = n := by unfold up4; omega
theorem up4_le (n : Int) : n ≤ up4 n ∧ up4 n < n + 4 ∧ up4 n % 4 = 0 := by unfold up4; omega

/-- Where objects begin, one behind the other, and where the last one ends. -/
def basesL : Int → List Ob → List Int
  | _, [] => []
  | b, o :: r => up4 b :: basesL (up4 b + o.code.length) r
def endL : Int → List Ob → Int
  | b, [] => b
  | b, o :: r => endL (up4 b + o.code.length) r
theorem basesL_len (l : List Ob) : ∀ b : Int, (basesL b l).length = l.length := by
  induction l with
  | nil => intro b; rfl
  | cons o r ih => intro b; simp [basesL, ih]
theorem endL_snoc (l : List Ob) (o : Ob) : ∀ b : Int, endL b (l ++ [o]) = up4 (endL b l) + o.code.length := by
  induction l with
  | nil => intro b; rfl
  | cons x r ih => intro b; simp [endL, ih]
theorem take_snoc {α : Type} (l : List α) {k : Nat} (hk : k < l.length) : l.take (k + 1) = l.take k ++ [l[k]] := by
  rw [List.take_add_one, List.getElem?_eq_getElem hk]; rfl
theorem endL_take (l : List Ob) (b : Int) (k : Nat) (hk : k < l.length) : endL b (l.take (k + 1)) = up4 (endL b (l.take k)) + l[k].code.length := by
  rw [take_snoc l hk, endL_snoc]
theorem basesL_at (l : List Ob) : ∀ (b : Int) (k : Nat) (hk : k < l.length), (basesL b l)[k]'(by rw [basesL_len]; exact hk) = up4 (endL b (l.take k)) := by
  induction l with
  | nil => intro b k hk; simp at hk
  | cons o r ih =>
    intro b k hk
    cases k with
    | zero => rfl
    | succ k => simp only [basesL, List.getElem_cons_succ, List.take_succ_cons, endL]; exact ih _ k (by simpa using hk)
theorem endL_ge (l : List Ob) : ∀ b : Int, b ≤ endL b l := by
  induction l with
  | nil => intro b; exact Int.le_refl _
  | cons o r ih => intro b; have := ih (up4 b + o.code.length); have := up4_le b; simp only [endL]; omega

/-- Where a name is: -1, if nowhere. -/
def whereL (nm : List UInt8) : List Sy → Int
  | [] => -1
  | s :: r => if s.name = nm then s.pos else whereL nm r
/-- A number put into bytes, where there is room, the uppermost byte first: so many of its lowest bytes. -/
def putL (b : List UInt8) (p size n : Int) : List UInt8 :=
  b.mapIdx fun i c => if 0 ≤ (i : Int) - p ∧ (i : Int) - p < size then lowB (n / 2 ^ (8 * (size - 1 - ((i : Int) - p))).toNat) else c

/-- An object's syms, added to those that are there: none, if one is there already. -/
def addSyms (at' : Int) : List Sy → List Sy → Option (List Sy)
  | have', [] => some have'
  | have', s :: r => if 0 ≤ whereL s.name have' then none else addSyms at' (have' ++ [⟨s.name, s.pos + at'⟩]) r

/-- A reloc, put: or what is wrong. -/
def putRel (syms : List Sy) (base at' : Int) (b : List UInt8) (r : Re) : Except Int (List UInt8) :=
  let p := if r.name = [] then at' else whereL r.name syms
  if p < 0 then .error 6
  else let n := wrap32 (p + r.add)
    if r.size = 2 ∧ (65535 < n ∨ n < -32768) then .error 3
    else .ok (putL b (at' - base + r.pos) r.size n)
def putRels (syms : List Sy) (base at' : Int) : List UInt8 → List Re → Except Int (List UInt8)
  | b, [] => .ok b
  | b, r :: l => match putRel syms base at' b r with
    | .error e => .error e
    | .ok c => putRels syms base at' c l

/-- What is wrong with the first object that is wrong, and its number. -/
def wrongAt (nm : List UInt8 → Bool) : Nat → List Ob → Option (Int × Nat)
  | _, [] => none
  | i, o :: r => if wrongO nm o = 0 then wrongAt nm (i + 1) r else some (wrongO nm o, i)

/-- All objects' bytes and syms, behind those that are there. -/
def layL (base : Int) : Nat → List UInt8 → List Sy → List (Ob × Int) → Except (Int × Nat) (List UInt8 × List Sy)
  | _, b, s, [] => .ok (b, s)
  | i, b, s, (o, at') :: r => match addSyms at' s o.syms with
    | none => .error (7, i)
    | some s' => layL base (i + 1) (b ++ List.replicate (at' - base - b.length).toNat 0 ++ o.code) s' r

/-- All objects' relocs. -/
def relL (syms : List Sy) (base : Int) : Nat → List UInt8 → List (Ob × Int) → Except (Int × Nat) (List UInt8)
  | _, b, [] => .ok b
  | i, b, (o, at') :: r => match putRels syms base at' b o.rels with
    | .error e => .error (e, i)
    | .ok c => relL syms base (i + 1) c r

/-- The image of bytes and syms that are laid: all relocs put. -/
def linkS (base : Int) (zs : List (Ob × Int)) (x : List UInt8 × List Sy) : Except (Int × Nat) (List UInt8 × List Sy) :=
  match relL x.2 base 0 x.1 zs with
  | .error e => .error e
  | .ok c => .ok (c, x.2)
/-- The image of objects, none of them wrong. -/
def linkR (l : List Ob) (base : Int) : Except (Int × Nat) (List UInt8 × List Sy) :=
  match layL base 0 [] [] (l.zip (basesL base l)) with
  | .error e => .error e
  | .ok x => linkS base (l.zip (basesL base l)) x
def linkM (nm : List UInt8 → Bool) (l : List Ob) (base : Int) : Except (Int × Nat) (List UInt8 × List Sy) :=
  match wrongAt nm 0 l with
  | some e => .error e
  | none => linkR l base

theorem zip_drop {l : List Ob} {base : Int} {k : Nat} (hk : k < l.length) : (l.zip (basesL base l)).drop k = (l[k], up4 (endL base (l.take k))) :: (l.zip (basesL base l)).drop (k + 1) := by
  have hz : (l.zip (basesL base l)).length = l.length := by simp [basesL_len]
  rw [List.drop_eq_getElem_cons (by omega), List.getElem_zip, basesL_at l base k hk]
theorem layL_at {l : List Ob} {base : Int} {k : Nat} (hk : k < l.length) (b : List UInt8) (s : List Sy) : layL base k b s ((l.zip (basesL base l)).drop k) = match addSyms (up4 (endL base (l.take k))) s l[k].syms with
    | none => .error (7, k)
    | some s' => layL base (k + 1) (b ++ List.replicate (up4 (endL base (l.take k)) - base - b.length).toNat 0 ++ l[k].code) s' ((l.zip (basesL base l)).drop (k + 1)) := by
  rw [zip_drop hk]; rfl
theorem layL_end {l : List Ob} {base : Int} {k : Nat} (hk : l.length ≤ k) (b : List UInt8) (s : List Sy) : layL base k b s ((l.zip (basesL base l)).drop k) = .ok (b, s) := by
  rw [List.drop_eq_nil_of_le (by simp; omega)]; rfl
theorem addSyms_at {at' : Int} {have' l : List Sy} {k : Nat} (hk : k < l.length) : addSyms at' have' (l.drop k) = if 0 ≤ whereL l[k].name have' then none else addSyms at' (have' ++ [⟨l[k].name, l[k].pos + at'⟩]) (l.drop (k + 1)) := by
  rw [List.drop_eq_getElem_cons hk]; rfl

/-- The image: or what is wrong, and with which. -/
def linkL (nm : List UInt8 → Bool) (l : List Ob) (base : Int) : Except (Int × Nat) (List UInt8 × List Sy) :=
  if base < 0 ∨ 1048576 < base ∨ base % 4 ≠ 0 then .error (3, 0)
  else if l.length = 0 ∨ 4 < l.length then .error (5, 0)
  else linkM nm l base

end Go.Proofs.YtgjmbjahgcndnaaGreatDoor.Li
