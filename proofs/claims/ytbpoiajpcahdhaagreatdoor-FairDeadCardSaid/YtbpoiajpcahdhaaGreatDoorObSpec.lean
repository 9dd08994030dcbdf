/- What an object is, what is wrong with it, its bytes, and the object of bytes: functions of lists; no program in this text. -/
import Derived.RowKit
namespace Go.Proofs.YtbpoiajpcahdhaaGreatDoor
open Go.RowKit

structure Sy where
  name : List UInt8
  pos : Int

structure Re where
  pos : Int
  size : Int
  name : List UInt8
  add : Int

structure Ob where
  code : List UInt8
  syms : List Sy
  rels : List Re

/-- What is wrong with a sym, behind others; nm: what a name is. -/
def symErr (nm : List UInt8 → Bool) (len : Nat) (before : List Sy) (s : Sy) : Int :=
  if nm s.name = false then 7
  else if before.any (fun t => decide (t.name = s.name)) = true then 7
  else if s.pos < 0 ∨ (len : Int) < s.pos then 3
  else 0

def symsErr (nm : List UInt8 → Bool) (len : Nat) : List Sy → List Sy → Int
  | _, [] => 0
  | before, s :: r => if symErr nm len before s = 0 then symsErr nm len (before ++ [s]) r else symErr nm len before s

/-- What is wrong with a reloc that may begin at last. -/
def relErr (nm : List UInt8 → Bool) (len : Nat) (last : Int) (r : Re) : Int :=
  if r.size ≠ 2 ∧ r.size ≠ 4 then 1
  else if r.pos < last ∨ 8000 < r.pos ∨ (len : Int) < r.pos + r.size then 3
  else if r.pos % r.size ≠ 0 then 11
  else if r.name ≠ [] ∧ nm r.name = false then 7
  else if r.add ≠ wrap32 r.add then 3
  else 0

def relsErr (nm : List UInt8 → Bool) (len : Nat) : Int → List Re → Int
  | _, [] => 0
  | last, r :: l => if relErr nm len last r = 0 then relsErr nm len (r.pos + r.size) l else relErr nm len last r

def wrongO (nm : List UInt8 → Bool) (o : Ob) : Int :=
  if 8000 < o.code.length ∨ 255 < o.syms.length ∨ 16000 < o.rels.length then 4
  else if symsErr nm o.code.length [] o.syms = 0 then relsErr nm o.code.length 0 o.rels
  else symsErr nm o.code.length [] o.syms

/-- A number's lowest byte, and its lowest four, the uppermost one first. -/
def lowB (n : Int) : UInt8 := UInt8.ofNat (n % 256).toNat
def be4 (n : Int) : List UInt8 := [lowB (n / 16777216), lowB (n / 65536), lowB (n / 256), lowB n]

def symB (s : Sy) : List UInt8 := lowB s.name.length :: (s.name ++ be4 s.pos)
def relB (r : Re) : List UInt8 := be4 r.pos ++ (lowB r.size :: lowB r.name.length :: (r.name ++ be4 r.add))
def bytesO (o : Ob) : List UInt8 :=
  [79, 66, 74] ++ (be4 o.code.length ++ (o.code ++ (be4 o.syms.length ++ (o.syms.flatMap symB ++ (be4 o.rels.length ++ o.rels.flatMap relB)))))

/-! There, and back. -/

theorem lowB_nat (n : Int) : ((lowB n).toNat : Int) = n % 256 := by
  have h0 : 0 ≤ n % 256 := Int.emod_nonneg _ (by decide)
  have h1 : n % 256 < 256 := Int.emod_lt_of_pos _ (by decide)
  unfold lowB
  rw [UInt8.toNat_ofNat']
  omega
theorem lowB_of (c : UInt8) : lowB (c.toNat : Int) = c := by
  apply UInt8.toNat_inj.1
  have h := lowB_nat (c.toNat : Int)
  have := c.toNat_lt
  omega
theorem be4_len (n : Int) : (be4 n).length = 4 := rfl
theorem symErr_ok {nm : List UInt8 → Bool} {len : Nat} {before : List Sy} {s : Sy} (h : symErr nm len before s = 0) : nm s.name = true ∧ 0 ≤ s.pos ∧ s.pos ≤ len := by
  unfold symErr at h
  split at h
  · cases h
  · rename_i h1
    split at h
    · cases h
    · split at h
      · cases h
      · exact ⟨by simpa using h1, by omega, by omega⟩
theorem symsErr_ok {nm : List UInt8 → Bool} {len : Nat} : ∀ (l before : List Sy), symsErr nm len before l = 0 → ∀ s, s ∈ l → nm s.name = true ∧ 0 ≤ s.pos ∧ s.pos ≤ len
  | [], _, _, s, hs => by cases hs
  | x :: l, before, h, s, hs => by
    unfold symsErr at h
    split at h
    · rename_i h0
      rcases List.mem_cons.1 hs with rfl | hs
      · exact symErr_ok h0
      · exact symsErr_ok l _ h s hs
    · rename_i h0; exact absurd h h0
theorem relErr_ok {nm : List UInt8 → Bool} {len : Nat} {last : Int} {r : Re} (h : relErr nm len last r = 0) : (r.size = 2 ∨ r.size = 4) ∧ last ≤ r.pos ∧ r.pos ≤ 8000 ∧ (r.name = [] ∨ nm r.name = true) ∧ r.add = wrap32 r.add := by
  unfold relErr at h
  split at h
  · cases h
  · split at h
    · cases h
    · split at h
      · cases h
      · split at h
        · cases h
        · rename_i h4
          split at h
          · cases h
          · rename_i h1 h2 h3 h5
            refine ⟨by omega, by omega, by omega, ?_, by simpa using h5⟩
            by_cases e : r.name = []
            · exact .inl e
            · exact .inr (by simpa [e] using h4)
theorem relsErr_ok {nm : List UInt8 → Bool} {len : Nat} : ∀ (l : List Re) (last : Int), 0 ≤ last → relsErr nm len last l = 0 → ∀ r, r ∈ l → (r.size = 2 ∨ r.size = 4) ∧ 0 ≤ r.pos ∧ r.pos ≤ 8000 ∧ (r.name = [] ∨ nm r.name = true) ∧ r.add = wrap32 r.add
  | [], _, _, _, r, hr => by cases hr
  | x :: l, last, hl, h, r, hr => by
    unfold relsErr at h
    split at h
    · rename_i h0
      have k := relErr_ok h0
      rcases List.mem_cons.1 hr with rfl | hr
      · exact ⟨k.1, by omega, k.2.2.1, k.2.2.2⟩
      · exact relsErr_ok l _ (by omega) h r hr
    · rename_i h0; exact absurd h h0

end Go.Proofs.YtbpoiajpcahdhaaGreatDoor
