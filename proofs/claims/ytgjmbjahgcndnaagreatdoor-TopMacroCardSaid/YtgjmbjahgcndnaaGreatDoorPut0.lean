/- What an object is, what is wrong with it, its bytes, and the object of bytes: functions of lists; no program in this text. What an image is of objects: functions of lists; no program in this text. -/
import Derived.RowKit
namespace Go.Proofs.YtgjmbjahgcndnaaGreatDoor
open Go.RowKit

structure Sy where
  name : List UInt8
  pos : Int

structure Re where
  pos : Int
  size : Int
  name : List UInt8
  add : Int

structure Ob where
  code : List UInt8
  syms : List Sy
  rels : List Re

/-- What is wrong with a sym, behind others; nm: what a name is. -/
def symErr (nm : List UInt8 → Bool) (len : Nat) (before : List Sy) (s : Sy) : Int :=
  if nm s.name = false then 7
  else if before.any (fun t => decide (t.name = s.name)) = true then 7
  else if s.pos < 0 ∨ (len : Int) < s.pos then 3
  else 0

def symsErr (nm : List UInt8 → Bool) (len : Nat) : List Sy → List Sy → Int
  | _, [] => 0
  | before, s :: r => if symErr nm len before s = 0 then symsErr nm len (before ++ [s]) r else symErr nm len before s

/-- What is wrong with a reloc that may begin at last. -/
def relErr (nm : List UInt8 → Bool) (len : Nat) (last : Int) (r : Re) : Int :=
  if r.size ≠ 2 ∧ r.size ≠ 4 then 1
  else if r.pos < last ∨ 8000 < r.pos ∨ (len : Int) < r.pos + r.size then 3
  else if r.pos % r.size ≠ 0 then 11
  else if r.name ≠ [] ∧ nm r.name = false then 7
  else if r.add ≠ wrap32 r.add then 3
  else 0

def relsErr (nm : List UInt8 → Bool) (len : Nat) : Int → List Re → Int
  | _, [] => 0
  | last, r :: l => if relErr nm len last r = 0 then relsErr nm len (r.pos + r.size) l else relErr nm len last r

def wrongO (nm : List UInt8 → Bool) (o : Ob) : Int :=
  if 8000 < o.code.length ∨ 255 < o.syms.length ∨ 16000 < o.rels.length then 4
  else if symsErr nm o.code.length [] o.syms = 0 then relsErr nm o.code.length 0 o.rels
  else symsErr nm o.code.length [] o.syms

/-- A number's lowest byte, and its lowest four, the uppermost one first. -/
def lowB (n : Int) : UInt8 := UInt8.ofNat (n % 256).toNat
def be4 (n : Int) : List UInt8 := [lowB (n / 16777216), lowB (n / 65536), lowB (n / 256), lowB n]

def symB (s : Sy) : List UInt8 := lowB s.name.length :: (s.name ++ be4 s.pos)
def relB (r : Re) : List UInt8 := be4 r.pos ++ (lowB r.size :: lowB r.name.length :: (r.name ++ be4 r.add))
def bytesO (o : Ob) : List UInt8 :=
  [79, 66, 74] ++ (be4 o.code.length ++ (o.code ++ (be4 o.syms.length ++ (o.syms.flatMap symB ++ (be4 o.rels.length ++ o.rels.flatMap relB)))))

def beNum (l : List UInt8) : Nat := l.foldl (fun n c => n * 256 + c.toNat) 0
def rdN (k : Nat) (l : List UInt8) : Option (Nat × List UInt8) := if k ≤ l.length then some (beNum (l.take k), l.drop k) else none
def rdT (n : Nat) (l : List UInt8) : Option (List UInt8 × List UInt8) := if n ≤ l.length then some (l.take n, l.drop n) else none

def rdSym (l : List UInt8) : Option (Sy × List UInt8) :=
  (rdN 1 l).bind fun a => (rdT a.1 a.2).bind fun b => (rdN 4 b.2).bind fun c => some (⟨b.1, c.1⟩, c.2)
def rdRel (l : List UInt8) : Option (Re × List UInt8) :=
  (rdN 4 l).bind fun a => (rdN 1 a.2).bind fun b => (rdN 1 b.2).bind fun c => (rdT c.1 c.2).bind fun d => (rdN 4 d.2).bind fun e => some (⟨a.1, b.1, d.1, wrap32 e.1⟩, e.2)
def rdMany {α : Type} (f : List UInt8 → Option (α × List UInt8)) : Nat → List UInt8 → Option (List α × List UInt8)
  | 0, l => some ([], l)
  | n + 1, l => (f l).bind fun a => (rdMany f n a.2).bind fun b => some (a.1 :: b.1, b.2)

def readO (l : List UInt8) : Option Ob :=
  (rdT 3 l).bind fun m => if m.1 = [79, 66, 74] then
    (rdN 4 m.2).bind fun a => (rdT a.1 a.2).bind fun c => (rdN 4 c.2).bind fun d => (rdMany rdSym d.1 d.2).bind fun s => (rdN 4 s.2).bind fun e => (rdMany rdRel e.1 e.2).bind fun r =>
      if r.2 = [] then some ⟨c.1, s.1, r.1⟩ else none
  else none
def parseO (nm : List UInt8 → Bool) (l : List UInt8) : Except Int Ob :=
  match readO l with
  | none => .error 2
  | some o => if wrongO nm o = 0 then .ok o else .error (wrongO nm o)

/-! There, and back. -/

theorem lowB_nat (n : Int) : ((lowB n).toNat : Int) = n % 256 := by
  have h0 : 0 ≤ n % 256 := Int.emod_nonneg _ (by decide)
  have h1 : n % 256 < 256 := Int.emod_lt_of_pos _ (by decide)
  unfold lowB
  rw [UInt8.toNat_ofNat']
  omega
theorem lowB_of (c : UInt8) : lowB (c.toNat : Int) = c := by
  apply UInt8.toNat_inj.1
  have h := lowB_nat (c.toNat : Int)
  have := c.toNat_lt
  omega
theorem beNum_four (a b c d : UInt8) : beNum [a, b, c, d] = ((a.toNat * 256 + b.toNat) * 256 + c.toNat) * 256 + d.toNat := by simp [beNum]
theorem beNum_be4 (n : Int) : ((beNum (be4 n) : Nat) : Int) = n % 4294967296 := by
  unfold be4
  rw [beNum_four]
  have h0 := lowB_nat n
  have h1 := lowB_nat (n / 256)
  have h2 := lowB_nat (n / 65536)
  have h3 := lowB_nat (n / 16777216)
  omega
theorem be4_len (n : Int) : (be4 n).length = 4 := rfl
theorem be4_same {m n : Int} (h : m % 4294967296 = n % 4294967296) : be4 m = be4 n := by
  have e : ∀ {a b : Int}, a % 256 = b % 256 → lowB a = lowB b := fun {a b} h => by unfold lowB; rw [h]
  unfold be4
  rw [e (a := m / 16777216) (b := n / 16777216) (by omega), e (a := m / 65536) (b := n / 65536) (by omega), e (a := m / 256) (b := n / 256) (by omega), e (a := m) (b := n) (by omega)]
theorem be4_beNum (a b c d : UInt8) : be4 ((beNum [a, b, c, d] : Nat) : Int) = [a, b, c, d] := by
  rw [beNum_four]
  have ha := a.toNat_lt
  have hb := b.toNat_lt
  have hc := c.toNat_lt
  have hd := d.toNat_lt
  have e : ∀ {x : Int} {y : UInt8}, x % 256 = (y.toNat : Int) → lowB x = y := fun {x y} h => by
    apply UInt8.toNat_inj.1
    have := lowB_nat x
    omega
  unfold be4
  rw [e (y := a) (by omega), e (y := b) (by omega), e (y := c) (by omega), e (y := d) (by omega)]

theorem rdN_be4 (n : Int) (r : List UInt8) (h0 : 0 ≤ n) (h1 : n < 4294967296) : rdN 4 (be4 n ++ r) = some (n.toNat, r) := by
  have e : beNum (be4 n) = n.toNat := by have := beNum_be4 n; omega
  unfold rdN
  rw [if_pos (by simp [be4_len])]
  have t : (be4 n ++ r).take 4 = be4 n := by rw [List.take_append_of_le_length (by rw [be4_len]; decide), List.take_of_length_le (by rw [be4_len]; decide)]
  have d : (be4 n ++ r).drop 4 = r := by simp [be4]
  rw [t, d, e]
theorem rdN_one (n : Int) (r : List UInt8) (h0 : 0 ≤ n) (h1 : n < 256) : rdN 1 (lowB n :: r) = some (n.toNat, r) := by
  have h := lowB_nat n
  have e : beNum [lowB n] = n.toNat := by simp [beNum]; omega
  unfold rdN
  rw [if_pos (by simp)]
  simp only [List.take_succ_cons, List.take_zero, List.drop_succ_cons, List.drop_zero, e]
theorem rdT_app (t r : List UInt8) (n : Nat) (h : n = t.length) : rdT n (t ++ r) = some (t, r) := by
  subst h
  unfold rdT
  rw [if_pos (by simp)]
  simp

theorem rdN_four_inv {l r : List UInt8} {n : Nat} (h : rdN 4 l = some (n, r)) : l = be4 n ++ r ∧ (n : Int) < 4294967296 := by
  unfold rdN at h
  split at h
  · rename_i hl
    match l, hl with
    | a :: b :: c :: d :: t, _ =>
      simp only [List.take_succ_cons, List.take_zero, List.drop_succ_cons, List.drop_zero, Option.some.injEq, Prod.mk.injEq] at h
      obtain ⟨rfl, rfl⟩ := h
      refine ⟨by rw [be4_beNum]; rfl, ?_⟩
      rw [beNum_four]
      have ha := a.toNat_lt
      have hb := b.toNat_lt
      have hc := c.toNat_lt
      have hd := d.toNat_lt
      omega
  · cases h
theorem rdN_one_inv {l r : List UInt8} {n : Nat} (h : rdN 1 l = some (n, r)) : l = lowB n :: r ∧ n < 256 := by
  unfold rdN at h
  split at h
  · rename_i hl
    match l, hl with
    | a :: t, _ =>
      simp only [List.take_succ_cons, List.take_zero, List.drop_succ_cons, List.drop_zero, Option.some.injEq, Prod.mk.injEq] at h
      obtain ⟨rfl, rfl⟩ := h
      have e : beNum [a] = a.toNat := by simp [beNum]
      rw [e]
      exact ⟨by rw [lowB_of], a.toNat_lt⟩
  · cases h
theorem rdT_inv {l t r : List UInt8} {n : Nat} (h : rdT n l = some (t, r)) : l = t ++ r ∧ t.length = n := by
  unfold rdT at h
  split at h
  · rename_i hl
    simp only [Option.some.injEq, Prod.mk.injEq] at h
    obtain ⟨rfl, rfl⟩ := h
    exact ⟨(List.take_append_drop _ _).symm, by simp; omega⟩
  · cases h

theorem rdMany_app {α : Type} {f : List UInt8 → Option (α × List UInt8)} {g : α → List UInt8} : ∀ (xs : List α) (r : List UInt8), (∀ x, x ∈ xs → ∀ r, f (g x ++ r) = some (x, r)) → rdMany f xs.length (xs.flatMap g ++ r) = some (xs, r)
  | [], _, _ => rfl
  | x :: xs, r, h => by
    rw [List.length_cons, List.flatMap_cons, List.append_assoc, rdMany, h x (List.mem_cons_self ..)]
    simp only [Option.bind_some]
    rw [rdMany_app xs r fun y hy => h y (List.mem_cons_of_mem _ hy)]
    rfl
theorem rdMany_inv {α : Type} {f : List UInt8 → Option (α × List UInt8)} {g : α → List UInt8} (hf : ∀ l x r, f l = some (x, r) → l = g x ++ r) : ∀ (n : Nat) (l r : List UInt8) (xs : List α), rdMany f n l = some (xs, r) → l = xs.flatMap g ++ r ∧ xs.length = n
  | 0, l, r, xs, h => by
    simp only [rdMany, Option.some.injEq, Prod.mk.injEq] at h
    obtain ⟨rfl, rfl⟩ := h
    exact ⟨rfl, rfl⟩
  | n + 1, l, r, xs, h => by
    simp only [rdMany, Option.bind_eq_some_iff, Prod.exists, Option.some.injEq, Prod.mk.injEq] at h
    obtain ⟨x, l1, h1, ys, l2, h2, rfl, rfl⟩ := h
    obtain ⟨rfl, rfl⟩ := rdMany_inv hf n l1 l2 ys h2
    rw [hf _ _ _ h1]
    exact ⟨by simp, rfl⟩

theorem rdSym_app (s : Sy) (r : List UInt8) (hn : s.name.length < 256) (h0 : 0 ≤ s.pos) (h1 : s.pos < 4294967296) : rdSym (symB s ++ r) = some (s, r) := by
  unfold rdSym symB
  rw [List.cons_append, rdN_one _ _ (by omega) (by omega)]
  simp only [Option.bind_some]
  rw [List.append_assoc, rdT_app _ _ _ (by omega)]
  simp only [Option.bind_some]
  rw [rdN_be4 _ _ h0 h1]
  simp only [Option.bind_some, Int.toNat_of_nonneg h0]
theorem rdSym_inv (l : List UInt8) (s : Sy) (r : List UInt8) (h : rdSym l = some (s, r)) : l = symB s ++ r := by
  simp only [rdSym, Option.bind_eq_some_iff, Prod.exists, Option.some.injEq, Prod.mk.injEq] at h
  obtain ⟨k, l1, h1, t, l2, h2, p, l3, h3, rfl, rfl⟩ := h
  obtain ⟨rfl, _⟩ := rdN_one_inv h1
  obtain ⟨rfl, rfl⟩ := rdT_inv h2
  obtain ⟨rfl, _⟩ := rdN_four_inv h3
  simp [symB]
theorem wrap32_mod (n : Int) : wrap32 n % 4294967296 = n % 4294967296 := by unfold wrap32; omega
theorem wrap32_of_mod (n : Int) : wrap32 (n % 4294967296) = wrap32 n := by unfold wrap32; omega
theorem rdRel_app (x : Re) (r : List UInt8) (hn : x.name.length < 256) (h0 : 0 ≤ x.pos) (h1 : x.pos < 4294967296) (h2 : 0 ≤ x.size) (h3 : x.size < 256) (h4 : x.add = wrap32 x.add) : rdRel (relB x ++ r) = some (x, r) := by
  have e4 : rdN 4 (be4 x.add ++ r) = some ((x.add % 4294967296).toNat, r) := by
    have := rdN_be4 (x.add % 4294967296) r (by omega) (by omega)
    rwa [be4_same (n := x.add) (by omega)] at this
  unfold rdRel relB
  rw [List.append_assoc, rdN_be4 _ _ h0 h1]
  simp only [Option.bind_some, List.cons_append]
  rw [rdN_one _ _ h2 h3]
  simp only [Option.bind_some]
  rw [rdN_one _ _ (by omega) (by omega)]
  simp only [Option.bind_some]
  rw [List.append_assoc, rdT_app _ _ _ (by omega)]
  simp only [Option.bind_some]
  rw [e4]
  have e5 : (((x.add % 4294967296).toNat : Nat) : Int) = x.add % 4294967296 := by omega
  simp only [Option.bind_some, Int.toNat_of_nonneg h0, Int.toNat_of_nonneg h2, e5, wrap32_of_mod, ← h4]
theorem rdRel_inv (l : List UInt8) (x : Re) (r : List UInt8) (h : rdRel l = some (x, r)) : l = relB x ++ r := by
  simp only [rdRel, Option.bind_eq_some_iff, Prod.exists, Option.some.injEq, Prod.mk.injEq] at h
  obtain ⟨p, l1, h1, s, l2, h2, k, l3, h3, t, l4, h4, a, l5, h5, rfl, rfl⟩ := h
  obtain ⟨rfl, _⟩ := rdN_four_inv h1
  obtain ⟨rfl, _⟩ := rdN_one_inv h2
  obtain ⟨rfl, _⟩ := rdN_one_inv h3
  obtain ⟨rfl, rfl⟩ := rdT_inv h4
  obtain ⟨rfl, _⟩ := rdN_four_inv h5
  have e : be4 (wrap32 (a : Int)) = be4 (a : Int) := be4_same (wrap32_mod _)
  simp [relB, e]

theorem symErr_ok {nm : List UInt8 → Bool} {len : Nat} {before : List Sy} {s : Sy} (h : symErr nm len before s = 0) : nm s.name = true ∧ 0 ≤ s.pos ∧ s.pos ≤ len := by
  unfold symErr at h
  split at h
  · cases h
  · rename_i h1
    split at h
    · cases h
    · split at h
      · cases h
      · exact ⟨by simpa using h1, by omega, by omega⟩
theorem symsErr_ok {nm : List UInt8 → Bool} {len : Nat} : ∀ (l before : List Sy), symsErr nm len before l = 0 → ∀ s, s ∈ l → nm s.name = true ∧ 0 ≤ s.pos ∧ s.pos ≤ len
  | [], _, _, s, hs => by cases hs
  | x :: l, before, h, s, hs => by
    unfold symsErr at h
    split at h
    · rename_i h0
      rcases List.mem_cons.1 hs with rfl | hs
      · exact symErr_ok h0
      · exact symsErr_ok l _ h s hs
    · rename_i h0; exact absurd h h0
theorem relErr_ok {nm : List UInt8 → Bool} {len : Nat} {last : Int} {r : Re} (h : relErr nm len last r = 0) : (r.size = 2 ∨ r.size = 4) ∧ last ≤ r.pos ∧ r.pos ≤ 8000 ∧ (r.name = [] ∨ nm r.name = true) ∧ r.add = wrap32 r.add := by
  unfold relErr at h
  split at h
  · cases h
  · split at h
    · cases h
    · split at h
      · cases h
      · split at h
        · cases h
        · rename_i h4
          split at h
          · cases h
          · rename_i h1 h2 h3 h5
            refine ⟨by omega, by omega, by omega, ?_, by simpa using h5⟩
            by_cases e : r.name = []
            · exact .inl e
            · exact .inr (by simpa [e] using h4)
theorem relsErr_ok {nm : List UInt8 → Bool} {len : Nat} : ∀ (l : List Re) (last : Int), 0 ≤ last → relsErr nm len last l = 0 → ∀ r, r ∈ l → (r.size = 2 ∨ r.size = 4) ∧ 0 ≤ r.pos ∧ r.pos ≤ 8000 ∧ (r.name = [] ∨ nm r.name = true) ∧ r.add = wrap32 r.add
  | [], _, _, _, r, hr => by cases hr
  | x :: l, last, hl, h, r, hr => by
    unfold relsErr at h
    split at h
    · rename_i h0
      have k := relErr_ok h0
      rcases List.mem_cons.1 hr with rfl | hr
      · exact ⟨k.1, by omega, k.2.2.1, k.2.2.2⟩
      · exact relsErr_ok l _ (by omega) h r hr
    · rename_i h0; exact absurd h h0

/-- An object that is right comes back from its bytes. -/
theorem parse_bytes {nm : List UInt8 → Bool} (hnm : ∀ l, nm l = true → l.length < 256) (o : Ob) (h : wrongO nm o = 0) : parseO nm (bytesO o) = .ok o := by
  have hw := h
  unfold wrongO at h
  split at h
  · cases h
  · rename_i hm
    split at h
    · rename_i hs
      have ks := symsErr_ok _ _ hs
      have kr := relsErr_ok _ 0 (by decide) h
      have hread : readO (bytesO o) = some o := by
        unfold readO bytesO
        rw [rdT_app _ _ 3 rfl]
        simp only [Option.bind_some, if_true]
        rw [rdN_be4 _ _ (by omega) (by omega)]
        simp only [Option.bind_some]
        rw [rdT_app _ _ _ (by omega)]
        simp only [Option.bind_some]
        rw [rdN_be4 _ _ (by omega) (by omega)]
        simp only [Option.bind_some, Int.toNat_natCast]
        rw [rdMany_app o.syms _ fun s hs r => rdSym_app s r (hnm _ (ks s hs).1) (ks s hs).2.1 (by have := (ks s hs).2.2; omega)]
        simp only [Option.bind_some]
        rw [rdN_be4 _ _ (by omega) (by omega)]
        simp only [Option.bind_some, Int.toNat_natCast]
        have hr := rdMany_app (f := rdRel) (g := relB) o.rels [] fun x hx r => rdRel_app x r (by
            rcases (kr x hx).2.2.2.1 with e | e
            · rw [e]; decide
            · exact hnm _ e) (kr x hx).2.1 (by have := (kr x hx).2.2.1; omega) (by have := (kr x hx).1; omega) (by have := (kr x hx).1; omega) (kr x hx).2.2.2.2
        rw [List.append_nil] at hr
        rw [hr]
        rfl
      unfold parseO
      rw [hread]
      simp only [hw, if_true]
    · rename_i hs; exact absurd h hs

/-- Bytes that are read are their object's, and that is right. -/
theorem bytes_parse {nm : List UInt8 → Bool} {l : List UInt8} {o : Ob} (h : parseO nm l = .ok o) : bytesO o = l ∧ wrongO nm o = 0 := by
  unfold parseO at h
  split at h
  · cases h
  · rename_i o' hr
    split at h
    · rename_i hw
      injection h with h
      subst h
      refine ⟨?_, hw⟩
      simp only [readO, Option.bind_eq_some_iff, Prod.exists] at hr
      obtain ⟨m, l0, h0, hr⟩ := hr
      split at hr
      · rename_i hm
        simp only [Option.bind_eq_some_iff, Prod.exists] at hr
        obtain ⟨n, l1, h1, c, l2, h2, a, l3, h3, ss, l4, h4, b, l5, h5, rs, l6, h6, hr⟩ := hr
        split at hr
        · rename_i he
          simp only [Option.some.injEq] at hr
          obtain ⟨rfl, _⟩ := rdT_inv h0
          obtain ⟨rfl, _⟩ := rdN_four_inv h1
          obtain ⟨rfl, hc⟩ := rdT_inv h2
          obtain ⟨rfl, _⟩ := rdN_four_inv h3
          obtain ⟨rfl, hss⟩ := rdMany_inv rdSym_inv _ _ _ _ h4
          obtain ⟨rfl, _⟩ := rdN_four_inv h5
          obtain ⟨rfl, hrs⟩ := rdMany_inv rdRel_inv _ _ _ _ h6
          subst hm he hr
          unfold bytesO
          simp only [hc, hss, hrs, List.append_nil]
        · cases hr
      · cases hr
    · cases h

end Go.Proofs.YtgjmbjahgcndnaaGreatDoor

namespace Go.Proofs.YtgjmbjahgcndnaaGreatDoor.Li
open Go.RowKit

/-- The next multiple of four. -/
def up4 (n : Int) : Int := n + (-n) % 4
theorem up4_of {n : Int} (h : n % 4 = 0) : up4 n = n := by unfold up4; omega
theorem up4_next {n : Int} (h : n % 4 ≠ 0) : up4 (n + 1) = up4 n := by unfold up4; omega
theorem up4_le (n : Int) : n ≤ up4 n ∧ up4 n < n + 4 ∧ up4 n % 4 = 0 := by unfold up4; omega

/-- Where objects begin, one behind the other, and where the last one ends. -/
def basesL : Int → List Ob → List Int
  | _, [] => []
  | b, o :: r => up4 b :: basesL (up4 b + o.code.length) r
def endL : Int → List Ob → Int
  | b, [] => b
  | b, o :: r => endL (up4 b + o.code.length) r
theorem basesL_len (l : List Ob) : ∀ b : Int, (basesL b l).length = l.length := by
  induction l with
  | nil => intro b; rfl
  | cons o r ih => intro b; simp [basesL, ih]
theorem basesL_snoc (l : List Ob) (o : Ob) : ∀ b : Int, basesL b (l ++ [o]) = basesL b l ++ [up4 (endL b l)] := by
  induction l with
  | nil => intro b; rfl
  | cons x r ih => intro b; simp [basesL, endL, ih]
theorem endL_snoc (l : List Ob) (o : Ob) : ∀ b : Int, endL b (l ++ [o]) = up4 (endL b l) + o.code.length := by
  induction l with
  | nil => intro b; rfl
  | cons x r ih => intro b; simp [endL, ih]
theorem take_snoc {α : Type} (l : List α) {k : Nat} (hk : k < l.length) : l.take (k + 1) = l.take k ++ [l[k]] := by
  rw [List.take_add_one, List.getElem?_eq_getElem hk]; rfl
theorem basesL_take (l : List Ob) (b : Int) (k : Nat) (hk : k < l.length) : basesL b (l.take (k + 1)) = basesL b (l.take k) ++ [up4 (endL b (l.take k))] := by
  rw [take_snoc l hk, basesL_snoc]
theorem endL_take (l : List Ob) (b : Int) (k : Nat) (hk : k < l.length) : endL b (l.take (k + 1)) = up4 (endL b (l.take k)) + l[k].code.length := by
  rw [take_snoc l hk, endL_snoc]
theorem basesL_at (l : List Ob) : ∀ (b : Int) (k : Nat) (hk : k < l.length), (basesL b l)[k]'(by rw [basesL_len]; exact hk) = up4 (endL b (l.take k)) := by
  induction l with
  | nil => intro b k hk; simp at hk
  | cons o r ih =>
    intro b k hk
    cases k with
    | zero => rfl
    | succ k => simp only [basesL, List.getElem_cons_succ, List.take_succ_cons, endL]; exact ih _ k (by simpa using hk)
theorem endL_ge (l : List Ob) : ∀ b : Int, b ≤ endL b l := by
  induction l with
  | nil => intro b; exact Int.le_refl _
  | cons o r ih => intro b; have := ih (up4 b + o.code.length); have := up4_le b; simp only [endL]; omega

/-- Where a name is: -1, if nowhere. -/
def whereL (nm : List UInt8) : List Sy → Int
  | [] => -1
  | s :: r => if s.name = nm then s.pos else whereL nm r
theorem whereL_at {nm : List UInt8} {l : List Sy} {k : Nat} (hk : k < l.length) : whereL nm (l.drop k) = if l[k].name = nm then l[k].pos else whereL nm (l.drop (k + 1)) := by
  rw [List.drop_eq_getElem_cons hk]; rfl
theorem whereL_end {nm : List UInt8} {l : List Sy} {k : Nat} (hk : l.length ≤ k) : whereL nm (l.drop k) = -1 := by
  rw [List.drop_eq_nil_of_le hk]; rfl

/-- A number put into bytes, where there is room, the uppermost byte first: so many of its lowest bytes. -/
def putL (b : List UInt8) (p size n : Int) : List UInt8 :=
  b.mapIdx fun i c => if 0 ≤ (i : Int) - p ∧ (i : Int) - p < size then lowB (n / 2 ^ (8 * (size - 1 - ((i : Int) - p))).toNat) else c

/-- An object's syms, added to those that are there: none, if one is there already. -/
def addSyms (at' : Int) : List Sy → List Sy → Option (List Sy)
  | have', [] => some have'
  | have', s :: r => if 0 ≤ whereL s.name have' then none else addSyms at' (have' ++ [⟨s.name, s.pos + at'⟩]) r

/-- A reloc, put: or what is wrong. -/
def putRel (syms : List Sy) (base at' : Int) (b : List UInt8) (r : Re) : Except Int (List UInt8) :=
  let p := if r.name = [] then at' else whereL r.name syms
  if p < 0 then .error 6
  else let n := wrap32 (p + r.add)
    if r.size = 2 ∧ (65535 < n ∨ n < -32768) then .error 3
    else .ok (putL b (at' - base + r.pos) r.size n)
def putRels (syms : List Sy) (base at' : Int) : List UInt8 → List Re → Except Int (List UInt8)
  | b, [] => .ok b
  | b, r :: l => match putRel syms base at' b r with
    | .error e => .error e
    | .ok c => putRels syms base at' c l

/-- What is wrong with the first object that is wrong, and its number. -/
def wrongAt (nm : List UInt8 → Bool) : Nat → List Ob → Option (Int × Nat)
  | _, [] => none
  | i, o :: r => if wrongO nm o = 0 then wrongAt nm (i + 1) r else some (wrongO nm o, i)

/-- All objects' bytes and syms, behind those that are there. -/
def layL (base : Int) : Nat → List UInt8 → List Sy → List (Ob × Int) → Except (Int × Nat) (List UInt8 × List Sy)
  | _, b, s, [] => .ok (b, s)
  | i, b, s, (o, at') :: r => match addSyms at' s o.syms with
    | none => .error (7, i)
    | some s' => layL base (i + 1) (b ++ List.replicate (at' - base - b.length).toNat 0 ++ o.code) s' r

/-- All objects' relocs. -/
def relL (syms : List Sy) (base : Int) : Nat → List UInt8 → List (Ob × Int) → Except (Int × Nat) (List UInt8)
  | _, b, [] => .ok b
  | i, b, (o, at') :: r => match putRels syms base at' b o.rels with
    | .error e => .error (e, i)
    | .ok c => relL syms base (i + 1) c r

/-- The image of bytes and syms that are laid: all relocs put. -/
def linkS (base : Int) (zs : List (Ob × Int)) (x : List UInt8 × List Sy) : Except (Int × Nat) (List UInt8 × List Sy) :=
  match relL x.2 base 0 x.1 zs with
  | .error e => .error e
  | .ok c => .ok (c, x.2)
/-- The image of objects, none of them wrong. -/
def linkR (l : List Ob) (base : Int) : Except (Int × Nat) (List UInt8 × List Sy) :=
  match layL base 0 [] [] (l.zip (basesL base l)) with
  | .error e => .error e
  | .ok x => linkS base (l.zip (basesL base l)) x
def linkM (nm : List UInt8 → Bool) (l : List Ob) (base : Int) : Except (Int × Nat) (List UInt8 × List Sy) :=
  match wrongAt nm 0 l with
  | some e => .error e
  | none => linkR l base

theorem zip_drop {l : List Ob} {base : Int} {k : Nat} (hk : k < l.length) : (l.zip (basesL base l)).drop k = (l[k], up4 (endL base (l.take k))) :: (l.zip (basesL base l)).drop (k + 1) := by
  have hz : (l.zip (basesL base l)).length = l.length := by simp [basesL_len]
  rw [List.drop_eq_getElem_cons (by omega), List.getElem_zip, basesL_at l base k hk]
theorem layL_at {l : List Ob} {base : Int} {k : Nat} (hk : k < l.length) (b : List UInt8) (s : List Sy) : layL base k b s ((l.zip (basesL base l)).drop k) = match addSyms (up4 (endL base (l.take k))) s l[k].syms with
    | none => .error (7, k)
    | some s' => layL base (k + 1) (b ++ List.replicate (up4 (endL base (l.take k)) - base - b.length).toNat 0 ++ l[k].code) s' ((l.zip (basesL base l)).drop (k + 1)) := by
  rw [zip_drop hk]; rfl
theorem layL_end {l : List Ob} {base : Int} {k : Nat} (hk : l.length ≤ k) (b : List UInt8) (s : List Sy) : layL base k b s ((l.zip (basesL base l)).drop k) = .ok (b, s) := by
  rw [List.drop_eq_nil_of_le (by simp; omega)]; rfl
theorem addSyms_at {at' : Int} {have' l : List Sy} {k : Nat} (hk : k < l.length) : addSyms at' have' (l.drop k) = if 0 ≤ whereL l[k].name have' then none else addSyms at' (have' ++ [⟨l[k].name, l[k].pos + at'⟩]) (l.drop (k + 1)) := by
  rw [List.drop_eq_getElem_cons hk]; rfl

/-- The image: or what is wrong, and with which. -/
def linkL (nm : List UInt8 → Bool) (l : List Ob) (base : Int) : Except (Int × Nat) (List UInt8 × List Sy) :=
  if base < 0 ∨ 1048576 < base ∨ base % 4 ≠ 0 then .error (3, 0)
  else if l.length = 0 ∨ 4 < l.length then .error (5, 0)
  else linkM nm l base

end Go.Proofs.YtgjmbjahgcndnaaGreatDoor.Li
