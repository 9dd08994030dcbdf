import Derived.RowKit
namespace Go.Proofs.YtgjmbjahgcndnaaGreatDoor
open Go.RowKit
structure Sy where
 name : List UInt8
 pos : Int
structure Re where
 pos : Int
 size : Int
 name : List UInt8
 add : Int
structure Ob where
 code : List UInt8
 syms : List Sy
 rels : List Re
def qB8 (nm : List UInt8 -> Bool) (len : Nat) (before : List Sy) (s : Sy) : Int :=
 if nm s.name = false then 7
 else if before.any (fun t => decide (t.name = s.name)) = true then 7
 else if s.pos < 0 \/ (len : Int) < s.pos then 3
 else 0
def qAR (nm : List UInt8 -> Bool) (len : Nat) : List Sy -> List Sy -> Int
 | _, [] => 0
 | before, s :: r => if qB8 nm len before s = 0 then qAR nm len (before ++ [s]) r else qB8 nm len before s
def qBA (nm : List UInt8 -> Bool) (len : Nat) (last : Int) (r : Re) : Int :=
 if r.size ≠ 2 /\ r.size ≠ 4 then 1
 else if r.pos < last \/ 8000 < r.pos \/ (len : Int) < r.pos + r.size then 3
 else if r.pos % r.size ≠ 0 then 11
 else if r.name ≠ [] /\ nm r.name = false then 7
 else if r.add ≠ wrap32 r.add then 3
 else 0
def qAs (nm : List UInt8 -> Bool) (len : Nat) : Int -> List Re -> Int
 | _, [] => 0
 | last, r :: l => if qBA nm len last r = 0 then qAs nm len (r.pos + r.size) l else qBA nm len last r
def qAD (nm : List UInt8 -> Bool) (o : Ob) : Int :=
 if 8000 < o.code.length \/ 255 < o.syms.length \/ 16000 < o.rels.length then 4
 else if qAR nm o.code.length [] o.syms = 0 then qAs nm o.code.length 0 o.rels
 else qAR nm o.code.length [] o.syms
def lowB (n : Int) : UInt8 := UInt8.ofNat (n % 256).toNat
def be4 (n : Int) : List UInt8 := [lowB (n / 16777216), lowB (n / 65536), lowB (n / 256), lowB n]
theorem qBO (n : Int) : ((lowB n).toNat : Int) = n % 256 := by
 have h0 : 0 <= n % 256 := Int.emod_nonneg _ (by decide)
 have h1 : n % 256 < 256 := Int.emod_lt_of_pos _ (by decide)
 unfold lowB
 rw [UInt8.toNat_ofNat']
 omega
theorem qJr {nm : List UInt8 -> Bool} {len : Nat} {before : List Sy} {s : Sy} (h : qB8 nm len before s = 0) : nm s.name = true /\ 0 <= s.pos /\ s.pos <= len := by
 unfold qB8 at h
 split at h
 ·cases h
 ·rename_i h1
  split at h
  ·cases h
  ·split at h
   ·cases h
   ·exact ⟨by simpa using h1, by omega, by omega⟩
theorem qEa {nm : List UInt8 -> Bool} {len : Nat} : ∀ (l before : List Sy), qAR nm len before l = 0 -> ∀ s, s ∈ l -> nm s.name = true /\ 0 <= s.pos /\ s.pos <= len
 | [], _, _, s, hs => by cases hs
 | x :: l, before, h, s, hs => by
   unfold qAR at h
   split at h
   ·rename_i h0
    rcases List.mem_cons.1 hs with rfl | hs
    ·exact qJr h0
    ·exact qEa l _ h s hs
   ·rename_i h0; exact absurd h h0
theorem qLR {nm : List UInt8 -> Bool} {len : Nat} {last : Int} {r : Re} (h : qBA nm len last r = 0) : (r.size = 2 \/ r.size = 4) /\ last <= r.pos /\ r.pos <= 8000 /\ (r.name = [] \/ nm r.name = true) /\ r.add = wrap32 r.add := by
 unfold qBA at h
 split at h
 ·cases h
 ·split at h
  ·cases h
  ·split at h
   ·cases h
   ·split at h
    ·cases h
    ·rename_i h4
     split at h
     ·cases h
     ·rename_i h1 h2 h3 h5
      refine ⟨by omega, by omega, by omega, ?_, by simpa using h5⟩
      by_cases e : r.name = []
      ·exact .inl e
      ·exact .inr (by simpa [e] using h4)
end Go.Proofs.YtgjmbjahgcndnaaGreatDoor
namespace Go.Proofs.YtgjmbjahgcndnaaGreatDoor.Li
open Go.RowKit
def up4 (n : Int) : Int := n + (-n) % 4
theorem up4_of {n : Int} (h : n % 4 = 0) : up4 n = n := by unfold up4; omega
theorem qEn (n : Int) : n <= up4 n /\ up4 n < n + 4 /\ up4 n % 4 = 0 := by unfold up4; omega
def qm : Int -> List Ob -> List Int
 | _, [] => []
 | b, o :: r => up4 b :: qm (up4 b + o.code.length) r
def endL : Int -> List Ob -> Int
 | b, [] => b
 | b, o :: r => endL (up4 b + o.code.length) r
theorem qEg (l : List Ob) : ∀ b : Int, (qm b l).length = l.length := by
 induction l with
 | nil => intro b; rfl
 | cons o r ih => intro b; simp [qm, ih]
theorem qL3 (l : List Ob) (o : Ob) : ∀ b : Int, endL b (l ++ [o]) = up4 (endL b l) + o.code.length := by
 induction l with
 | nil => intro b; rfl
 | cons x r ih => intro b; simp [endL, ih]
theorem qFx {α : Type} (l : List α) {k : Nat} (hk : k < l.length) : l.take (k + 1) = l.take k ++ [l[k]] := by
 rw [List.take_add_one, List.getElem?_eq_getElem hk]; rfl
theorem qKe (l : List Ob) (b : Int) (k : Nat) (hk : k < l.length) : endL b (l.take (k + 1)) = up4 (endL b (l.take k)) + l[k].code.length := by
 rw [qFx l hk, qL3]
theorem qKT (l : List Ob) : ∀ (b : Int) (k : Nat) (hk : k < l.length), (qm b l)[k]'(by rw [qEg]; exact hk) = up4 (endL b (l.take k)) := by
 induction l with
 | nil => intro b k hk; simp at hk
 | cons o r ih =>
   intro b k hk
   cases k with
   | zero => rfl
   | succ k => simp only [qm, List.getElem_cons_succ, List.take_succ_cons, endL]; exact ih _ k (by simpa using hk)
theorem qG2 (l : List Ob) : ∀ b : Int, b <= endL b l := by
 induction l with
 | nil => intro b; exact Int.le_refl _
 | cons o r ih => intro b; have := ih (up4 b + o.code.length); have := qEn b; simp only [endL]; omega
def qk (nm : List UInt8) : List Sy -> Int
 | [] => -1
 | s :: r => if s.name = nm then s.pos else qk nm r
def putL (b : List UInt8) (p size n : Int) : List UInt8 :=
 b.mapIdx fun i c => if 0 <= (i : Int) - p /\ (i : Int) - p < size then lowB (n / 2 ^ (8 * (size - 1 - ((i : Int) - p))).toNat) else c
def qAt (at' : Int) : List Sy -> List Sy -> Option (List Sy)
 | have', [] => some have'
 | have', s :: r => if 0 <= qk s.name have' then none else qAt at' (have' ++ [⟨s.name, s.pos + at'⟩]) r
def qB9 (syms : List Sy) (base at' : Int) (b : List UInt8) (r : Re) : Except Int (List UInt8) :=
 let p := if r.name = [] then at' else qk r.name syms
 if p < 0 then .error 6
 else let n := wrap32 (p + r.add)
  if r.size = 2 /\ (65535 < n \/ n < -32768) then .error 3
  else .ok (putL b (at' - base + r.pos) r.size n)
def qAg (syms : List Sy) (base at' : Int) : List UInt8 -> List Re -> Except Int (List UInt8)
 | b, [] => .ok b
 | b, r :: l => match qB9 syms base at' b r with
   | .error e => .error e
   | .ok c => qAg syms base at' c l
def qAF (nm : List UInt8 -> Bool) : Nat -> List Ob -> Option (Int × Nat)
 | _, [] => none
 | i, o :: r => if qAD nm o = 0 then qAF nm (i + 1) r else some (qAD nm o, i)
def layL (base : Int) : Nat -> List UInt8 -> List Sy -> List (Ob × Int) -> Except (Int × Nat) (List UInt8 × List Sy)
 | _, b, s, [] => .ok (b, s)
 | i, b, s, (o, at') :: r => match qAt at' s o.syms with
   | none => .error (7, i)
   | some s' => layL base (i + 1) (b ++ List.replicate (at' - base - b.length).toNat 0 ++ o.code) s' r
def relL (syms : List Sy) (base : Int) : Nat -> List UInt8 -> List (Ob × Int) -> Except (Int × Nat) (List UInt8)
 | _, b, [] => .ok b
 | i, b, (o, at') :: r => match qAg syms base at' b o.rels with
   | .error e => .error (e, i)
   | .ok c => relL syms base (i + 1) c r
def qJ7 (base : Int) (zs : List (Ob × Int)) (x : List UInt8 × List Sy) : Except (Int × Nat) (List UInt8 × List Sy) :=
 match relL x.2 base 0 x.1 zs with
 | .error e => .error e
 | .ok c => .ok (c, x.2)
def qIR (l : List Ob) (base : Int) : Except (Int × Nat) (List UInt8 × List Sy) :=
 match layL base 0 [] [] (l.zip (qm base l)) with
 | .error e => .error e
 | .ok x => qJ7 base (l.zip (qm base l)) x
def qGr (nm : List UInt8 -> Bool) (l : List Ob) (base : Int) : Except (Int × Nat) (List UInt8 × List Sy) :=
 match qAF nm 0 l with
 | some e => .error e
 | none => qIR l base
theorem qH9 {l : List Ob} {base : Int} {k : Nat} (hk : k < l.length) : (l.zip (qm base l)).drop k = (l[k], up4 (endL base (l.take k))) :: (l.zip (qm base l)).drop (k + 1) := by
 have hz : (l.zip (qm base l)).length = l.length := by simp [qEg]
 rw [List.drop_eq_getElem_cons (by omega), List.getElem_zip, qKT l base k hk]
theorem qLL {l : List Ob} {base : Int} {k : Nat} (hk : k < l.length) (b : List UInt8) (s : List Sy) : layL base k b s ((l.zip (qm base l)).drop k) = match qAt (up4 (endL base (l.take k))) s l[k].syms with
  | none => .error (7, k)
  | some s' => layL base (k + 1) (b ++ List.replicate (up4 (endL base (l.take k)) - base - b.length).toNat 0 ++ l[k].code) s' ((l.zip (qm base l)).drop (k + 1)) := by
 rw [qH9 hk]; rfl
theorem qHN {l : List Ob} {base : Int} {k : Nat} (hk : l.length <= k) (b : List UInt8) (s : List Sy) : layL base k b s ((l.zip (qm base l)).drop k) = .ok (b, s) := by
 rw [List.drop_eq_nil_of_le (by simp; omega)]; rfl
theorem qIf {at' : Int} {have' l : List Sy} {k : Nat} (hk : k < l.length) : qAt at' have' (l.drop k) = if 0 <= qk l[k].name have' then none else qAt at' (have' ++ [⟨l[k].name, l[k].pos + at'⟩]) (l.drop (k + 1)) := by
 rw [List.drop_eq_getElem_cons hk]; rfl
def qCl (nm : List UInt8 -> Bool) (l : List Ob) (base : Int) : Except (Int × Nat) (List UInt8 × List Sy) :=
 if base < 0 \/ 1048576 < base \/ base % 4 ≠ 0 then .error (3, 0)
 else if l.length = 0 \/ 4 < l.length then .error (5, 0)
 else qGr nm l base
end Go.Proofs.YtgjmbjahgcndnaaGreatDoor.Li
