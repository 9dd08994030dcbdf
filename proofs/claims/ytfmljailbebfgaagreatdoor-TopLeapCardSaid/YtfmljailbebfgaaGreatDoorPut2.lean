import Derived.Test.YtfmljailbebfgaaGreatDoorPut0
import Derived.Test.YtfmljailbebfgaaGreatDoorPut1
namespace Go.Proofs.YtfmljailbebfgaaGreatDoor
open Go.RowKit
inductive Goal where
 | val (name : List UInt8) (n : Int)
 | slot (pool : Nat) (i : Nat)
inductive Gen where
 | fill
 | num (name : List UInt8) (n : Int)
 | plain (op n m imm : Int)
 | lead (op n m imm : Int) (to : Goal)
structure It where
 line : Int
 size : Int
 upTo : Int
 align : Int
 gen : Gen
structure Un where
 labels : List (List UInt8 × Nat)
 items : List It
 firsts : Nat -> Nat
def plainI (line op n m imm : Int) : It := ⟨line, 2, 1, 2, .plain op n m imm⟩
def leadI (line op n m imm : Int) (to : Goal) : It := ⟨line, 2, 1, 2, .lead op n m imm to⟩
def tellU : Int -> List It -> List Int
 | p, [] => [p]
 | p, x :: r => p :: tellU (p + (x.size + (x.upTo - p.tmod x.upTo).tmod x.upTo)) r
def labelAt (name : List UInt8) : List (List UInt8 × Nat) -> Option Nat
 | [] => none
 | (a, k) :: r => if a = name then some k else labelAt name r
def placeU (u : Un) (ps : List Int) (name : List UInt8) (n : Int) : Except Int Int :=
 if name = [] then .error 8
 else match labelAt name u.labels with
  | none => .error 6
  | some k => .ok (ps.getD k 0 + n)
def goalU (u : Un) (ps : List Int) : Goal -> Except Int Int
 | .val name n => placeU u ps name n
 | .slot p i => .ok (ps.getD (u.firsts p + i) 0)
def awayU (shape pos to : Int) : Int × Int :=
 if shape = 8 then (to - ((pos + 4) - (pos + 4).tmod 4), 4) else (to - (pos + 4), 2)
def nearU (pos to : Int) : Bool := decide (-128 * 2 <= (awayU 4 pos to).1 /\ (awayU 4 pos to).1 <= 127 * 2)
def farU (u : Un) (ps : List Int) (pos : Int) : Gen -> Bool
 | .lead op _ _ _ to => if Isa.infoShape op = 4 then (match goalU u ps to with | .ok p => !(nearU pos p) | .error _ => false) else false
 | _ => false
def longU (u : Un) (ps : List Int) : Nat -> List It -> List It × Bool
 | _, [] => ([], false)
 | k, x :: r =>
   if x.size < 6 /\ farU u ps (ps.getD k 0) x.gen = true then ({ x with size := 6 } :: (longU u ps (k + 1) r).1, true)
   else (x :: (longU u ps (k + 1) r).1, (longU u ps (k + 1) r).2)
def layU : Nat -> Un -> Option (Except Int (Un × List Int))
 | 0, _ => none
 | f + 1, u =>
   let ps := tellU 0 u.items
   if 8000 < ps.getLastD 0 then some (.error 4)
   else if (longU u ps 0 u.items).2 = true then layU f { u with items := (longU u ps 0 u.items).1 }
   else some (.ok (u, ps))
def ledU (op pos to : Int) : Except Int Int :=
 if ((awayU (Isa.infoShape op) pos to).1).tmod (awayU (Isa.infoShape op) pos to).2 ≠ 0 then .error 11
 else .ok (((awayU (Isa.infoShape op) pos to).1).tdiv (awayU (Isa.infoShape op) pos to).2)
def half (n : Int) : List UInt8 := [lowB (n / 256), lowB n]
def encU (op n m imm : Int) : Except Int (List UInt8) :=
 if Isa.wrongI op n m imm = 0 then .ok (half (Isa.encI op n m imm)) else .error (Isa.wrongI op n m imm)
def longB (op pos to : Int) : Except Int (List UInt8) :=
 match ledU 19 (pos + 2) to with
 | .error e => .error e
 | .ok d =>
   match encU (if op = 17 then 18 else 17) 0 0 1 with
   | .error e => .error e
   | .ok a =>
     match encU 19 0 0 d with
     | .error e => .error e
     | .ok b =>
       match encU 1 0 0 0 with
       | .error e => .error e
       | .ok c => .ok (a ++ (b ++ c))
def putU (size n : Int) : List UInt8 := if size = 1 then [lowB n] else if size = 2 then half n else be4 n
def bytesU (u : Un) (ps : List Int) (pos size : Int) (rs : List Re) (x : It) : Except Int (List UInt8 × List Re) :=
 match x.gen with
 | .fill => .ok (List.replicate size.toNat 0, rs)
 | .num name n =>
   if name = [] then .ok (putU x.size n, rs)
   else match placeU u ps name n with
    | .ok p => .ok (List.replicate x.size.toNat 0, rs ++ [⟨pos, x.size, [], wrap32 p⟩])
    | .error _ => .ok (List.replicate x.size.toNat 0, rs ++ [⟨pos, x.size, name, n⟩])
 | .plain op n m imm => (encU op n m imm).map fun b => (b, rs)
 | .lead op n m _ to =>
   match goalU u ps to with
   | .error e => .error e
   | .ok p =>
     if size = 6 then (longB op pos p).map fun b => (b, rs)
     else match ledU op pos p with
      | .error e => .error e
      | .ok d => (encU op n m d).map fun b => (b, rs)
def writeU (u : Un) (ps : List Int) : Nat -> List UInt8 -> List Re -> List It -> Except (Int × Int) (List UInt8 × List Re)
 | _, code, rs, [] => .ok (code, rs)
 | k, code, rs, x :: r =>
   if (ps.getD k 0).tmod x.align ≠ 0 then .error (11, x.line)
   else match bytesU u ps (ps.getD k 0) (ps.getD (k + 1) 0 - ps.getD k 0) rs x with
    | .error e => .error (e, x.line)
    | .ok (b, rs') => writeU u ps (k + 1) (code ++ b) rs' r
def symsU (u : Un) (ps : List Int) : List Sy := u.labels.map fun a => ⟨a.1, ps.getD a.2 0⟩
def unitU (f : Nat) (u : Un) : Option (Except (Int × Int) Ob) :=
 match layU f u with
 | none => none
 | some (.error e) => some (.error (e, 0))
 | some (.ok (v, ps)) =>
   match writeU v ps 0 [] [] v.items with
   | .error e => some (.error e)
   | .ok (code, rs) => some (.ok ⟨code, symsU v ps, rs⟩)
theorem qBP : ∀ (l : List It) (p : Int), (tellU p l).length = l.length + 1
 | [], p => rfl
 | x :: r, p => by simp [tellU, qBP r]
def Two (a : It × List UInt8) : Prop :=
 a.1.size = 2 /\ a.1.upTo = 1 /\ a.1.align = 2 /\ (∀ u ps pos rs, bytesU u ps pos 2 rs a.1 = .ok (a.2, rs)) /\ ∀ u ps pos, farU u ps pos a.1.gen = false
theorem qIA {line op n m imm : Int} {b : List UInt8} (h : encU op n m imm = .ok b) : Two (plainI line op n m imm, b) := by
 refine ⟨rfl, rfl, rfl, ?_, ?_⟩
 ·intro u ps pos rs; simp [bytesU, plainI, h, Except.map]
 ·intro u ps pos; simp [farU, plainI]
def fsts (l : List (It × List UInt8)) : List It := l.map (·.1)
theorem qBp (l : List (It × List UInt8)) : (fsts l).length = l.length := by simp [fsts]
theorem step_two {x : It × List UInt8} (h : Two x) (p : Int) : p + (x.1.size + (x.1.upTo - p.tmod x.1.upTo).tmod x.1.upTo) = p + 2 := by
 have a : p.tmod 1 = 0 := Int.tmod_one p
 have b : (1 - p.tmod 1).tmod 1 = 0 := Int.tmod_one _
 rw [h.1, h.2.1]; omega
theorem qBM : ∀ (l : List (It × List UInt8)), (∀ a, a ∈ l -> Two a) -> ∀ (p : Int) (r : List It) (k : Nat),
  (k <= l.length -> (tellU p (fsts l ++ r)).getD k 0 = p + 2 * k) /\ (tellU p (fsts l ++ r)).getD (l.length + k) 0 = (tellU (p + 2 * l.length) r).getD k 0
 | [], h, p, r, k => by
   constructor
   ·intro hk
    obtain rfl : k = 0 := by simpa using hk
    cases r <;> simp [fsts, tellU]
   ·simp [fsts]
 | a :: l, h, p, r, k => by
   have ha := h a (by simp)
   have hl : ∀ b, b ∈ l -> Two b := fun b hb => h b (by simp [hb])
   have e : tellU p (fsts (a :: l) ++ r) = p :: tellU (p + 2) (fsts l ++ r) := by
    simp only [fsts, List.map_cons, List.cons_append, tellU]
    rw [step_two ha]
   rw [e]
   constructor
   ·intro hk
    cases k with
    | zero => simp
    | succ k =>
      rw [List.getD_cons_succ, ((qBM l hl (p + 2) r k).1 (by simpa using hk))]
      push_cast; omega
   ·rw [show (a :: l).length + k = (l.length + k) + 1 by simp; omega, List.getD_cons_succ, (qBM l hl (p + 2) r k).2]
    congr 2
    simp only [List.length_cons]; push_cast; omega
theorem qAS (u : Un) (ps : List Int) : ∀ (l : List (It × List UInt8)), (∀ a, a ∈ l -> Two a) -> ∀ (r : List It) (k : Nat),
  longU u ps k (fsts l ++ r) = (fsts l ++ (longU u ps (k + l.length) r).1, (longU u ps (k + l.length) r).2)
 | [], h, r, k => by simp [fsts]
 | a :: l, h, r, k => by
   have ha := h a (by simp)
   have ih := qAS u ps l (fun b hb => h b (by simp [hb])) r (k + 1)
   simp only [fsts, List.map_cons, List.cons_append, longU, ha.2.2.2.2, Bool.false_eq_true, and_false, if_false] at ih ⊢
   rw [ih]
   rw [show k + 1 + l.length = k + (a :: l).length by simp; omega]
theorem qAo (u : Un) (ps : List Int) : ∀ (l : List (It × List UInt8)), (∀ a, a ∈ l -> Two a) -> ∀ (r : List It) (k : Nat) (p : Int) (code : List UInt8) (rs : List Re),
  p % 2 = 0 -> 0 <= p -> (∀ j, j <= l.length -> ps.getD (k + j) 0 = p + 2 * j) ->
  writeU u ps k code rs (fsts l ++ r) = writeU u ps (k + l.length) (code ++ l.flatMap (·.2)) rs r
 | [], h, r, k, p, code, rs, h2, hp, hj => by simp [fsts]
 | a :: l, h, r, k, p, code, rs, h2, hp, hj => by
   have ha := h a (by simp)
   have h0 := hj 0 (by simp)
   have h1 := hj 1 (by simp)
   have ih := qAo u ps l (fun b hb => h b (by simp [hb])) r (k + 1) (p + 2) (code ++ a.2) rs (by omega) (by omega) (by
    intro j hl
    have := hj (j + 1) (by simpa using hl)
    rw [show k + (j + 1) = k + 1 + j by omega] at this
    rw [this]; push_cast; omega)
   simp only [Nat.add_zero] at h0
   have e0 : (ps.getD k 0).tmod a.1.align = 0 := by
    rw [h0, ha.2.2.1]
    rw [Int.tmod_eq_emod_of_nonneg (by omega)]
    omega
   have e1 : ps.getD (k + 1) 0 - ps.getD k 0 = 2 := by rw [h0, h1]; push_cast; omega
   simp only [fsts, List.map_cons, List.cons_append] at ih ⊢
   rw [writeU, if_neg (by simpa using e0), e1, ha.2.2.2.1]
   simp only []
   rw [ih]
   rw [show k + 1 + l.length = k + (a :: l).length by simp; omega]
   simp [List.flatMap_cons, List.append_assoc]
theorem qFf {op d : Int} (h : op = 17 \/ op = 18) (h0 : -128 <= d) (h1 : d <= 127) : encU op 0 0 d = .ok (half (Isa.encI op 0 0 d)) := by
 have : Isa.wrongI op 0 0 d = 0 := by
  rcases h with rfl | rfl
  ·have a : Isa.layLow (Isa.opShape 17) = -128 := rfl
   have b : Isa.layHigh (Isa.opShape 17) = 127 := rfl
   unfold Isa.wrongI
   rw [if_pos (by decide), a, b, if_pos ⟨by decide, by decide, by simp [Isa.withinB]; omega⟩]
  ·have a : Isa.layLow (Isa.opShape 18) = -128 := rfl
   have b : Isa.layHigh (Isa.opShape 18) = 127 := rfl
   unfold Isa.wrongI
   rw [if_pos (by decide), a, b, if_pos ⟨by decide, by decide, by simp [Isa.withinB]; omega⟩]
 rw [encU, if_pos this]
theorem enc_bra {d : Int} (h0 : -2048 <= d) (h1 : d <= 2047) : encU 19 0 0 d = .ok (half (Isa.encI 19 0 0 d)) := by
 have : Isa.wrongI 19 0 0 d = 0 := by
  have a : Isa.layLow (Isa.opShape 19) = -2048 := rfl
  have b : Isa.layHigh (Isa.opShape 19) = 2047 := rfl
  unfold Isa.wrongI
  rw [if_pos (by decide), a, b, if_pos ⟨by decide, by decide, by simp [Isa.withinB]; omega⟩]
 rw [encU, if_pos this]
theorem enc_nop : encU 1 0 0 0 = .ok [0, 9] := by with_unfolding_all rfl
theorem qFE {op p d : Int} (hs : Isa.infoShape op = 4 \/ Isa.infoShape op = 5) : ledU op p (p + 4 + 2 * d) = .ok d := by
 have e : awayU (Isa.infoShape op) p (p + 4 + 2 * d) = (2 * d, 2) := by
  unfold awayU
  rw [if_neg (by rcases hs with h | h <;> rw [h] <;> decide)]
  congr 1; omega
 unfold ledU
 rw [e]
 simp only []
 rw [if_neg (by simp [Int.mul_tmod_right])]
 rw [Int.mul_tdiv_cancel_left _ (by decide)]
theorem near_iff (p d : Int) : nearU p (p + 4 + 2 * d) = decide (-128 <= d /\ d <= 127) := by
 unfold nearU awayU
 rw [if_neg (by decide)]
 apply decide_eq_decide.mpr
 constructor <;> intro h <;> constructor <;> omega
def shortB (op d : Int) : List UInt8 := half (Isa.encI op 0 0 d)
def farB (op e : Int) : List UInt8 := half (Isa.encI (if op = 17 then 18 else 17) 0 0 1) ++ (half (Isa.encI 19 0 0 e) ++ [0, 9])
theorem qG1 {op p e : Int} (h0 : -2048 <= e) (h1 : e <= 2047) : longB op p (p + 6 + 2 * e) = .ok (farB op e) := by
 unfold longB
 rw [show p + 6 + 2 * e = (p + 2) + 4 + 2 * e by omega, qFE (Or.inr rfl)]
 simp only []
 rw [qFf (by by_cases h : op = 17 <;> simp [h]) (by decide) (by decide)]
 simp only []
 rw [enc_bra h0 h1]
 simp only []
 rw [enc_nop]
 rfl
theorem qFe {l : List Int} {k : Nat} {v : Int} (hl : l.length = k + 1) (h : l.getD k 0 = v) : l.getLastD 0 = v := by
 rw [List.getLastD_eq_getLast?, List.getLast?_eq_getElem?, hl]
 rw [List.getD_eq_getElem?_getD] at h
 simpa using h
def ledI (line op size : Int) (nm : List UInt8) : It := ⟨line, size, 1, 2, .lead op 0 0 0 (.val nm 0)⟩
theorem qIi (line op size : Int) (nm : List UInt8) (p : Int) (r : List It) : tellU p (ledI line op size nm :: r) = p :: tellU (p + size) r := by
 have a : p.tmod 1 = 0 := Int.tmod_one p
 have b : (1 - p.tmod 1).tmod 1 = 0 := Int.tmod_one _
 simp only [tellU, ledI]
 rw [b, Int.add_zero]
theorem qEk {u : Un} {ps : List Int} {nm : List UInt8} {k : Nat} (hn : nm ≠ []) (hu : u.labels = [(nm, k)]) : goalU u ps (.val nm 0) = .ok (ps.getD k 0) := by
 simp [goalU, placeU, hn, hu, labelAt]
theorem qFW {u : Un} {ps : List Int} {nm : List UInt8} {line op size p d : Int} (ho : op = 17 \/ op = 18) (hg : goalU u ps (.val nm 0) = .ok (p + 4 + 2 * d)) :
  farU u ps p (ledI line op size nm).gen = !(decide (-128 <= d /\ d <= 127)) := by
 have hs : Isa.infoShape op = 4 := by rcases ho with rfl | rfl <;> rfl
 simp only [farU, ledI, hs, if_true, hg, near_iff]
theorem qGj {u : Un} {ps : List Int} {nm : List UInt8} {line op p d : Int} {rs : List Re} (ho : op = 17 \/ op = 18) (hg : goalU u ps (.val nm 0) = .ok (p + 4 + 2 * d)) (h0 : -128 <= d) (h1 : d <= 127) :
  bytesU u ps p 2 rs (ledI line op 2 nm) = .ok (shortB op d, rs) := by
 have hs : Isa.infoShape op = 4 := by rcases ho with rfl | rfl <;> rfl
 simp only [bytesU, ledI, hg]
 rw [if_neg (by decide), qFE (Or.inl hs)]
 simp only []
 rw [qFf ho h0 h1]
 rfl
theorem qIU {u : Un} {ps : List Int} {nm : List UInt8} {line op p e : Int} {rs : List Re} (hg : goalU u ps (.val nm 0) = .ok (p + 6 + 2 * e)) (h0 : -2048 <= e) (h1 : e <= 2047) :
  bytesU u ps p 6 rs (ledI line op 6 nm) = .ok (farB op e, rs) := by
 simp only [bytesU, ledI, hg]
 rw [if_pos trivial, qG1 h0 h1]
 rfl
theorem qDS (line op size : Int) (nm : List UInt8) (l m : List (It × List UInt8)) (hl : ∀ a, a ∈ l -> Two a) (hm : ∀ a, a ∈ m -> Two a) :
  (∀ j, j <= l.length -> (tellU 0 (fsts l ++ ledI line op size nm :: fsts m)).getD j 0 = 2 * j) /\ (∀ j, j <= m.length -> (tellU 0 (fsts l ++ ledI line op size nm :: fsts m)).getD (l.length + 1 + j) 0 = 2 * l.length + size + 2 * j)
   /\ (tellU 0 (fsts l ++ ledI line op size nm :: fsts m)).getLastD 0 = 2 * l.length + size + 2 * m.length := by
 have a : ∀ j, j <= l.length -> (tellU 0 (fsts l ++ ledI line op size nm :: fsts m)).getD j 0 = 2 * j := by
  intro j hj
  have := (qBM l hl 0 (ledI line op size nm :: fsts m) j).1 hj
  rw [this]; omega
 have b : ∀ j, j <= m.length -> (tellU 0 (fsts l ++ ledI line op size nm :: fsts m)).getD (l.length + 1 + j) 0 = 2 * l.length + size + 2 * j := by
  intro j hj
  have e1 := (qBM l hl 0 (ledI line op size nm :: fsts m) (1 + j)).2
  rw [show l.length + 1 + j = l.length + (1 + j) by omega, e1, qIi, show 1 + j = j + 1 by omega, List.getD_cons_succ]
  have := (qBM m hm (0 + 2 * (l.length : Int) + size) [] j).1 hj
  rw [List.append_nil] at this
  rw [this]; omega
 refine ⟨a, b, ?_⟩
 exact qFe (k := l.length + 1 + m.length) (by rw [qBP, List.length_append, List.length_cons, qBp, qBp]; omega) (b _ (Nat.le_refl _))
theorem mid_near {nm : List UInt8} (hn : nm ≠ []) {op : Int} (ho : op = 17 \/ op = 18) (line : Int) (l m : List (It × List UInt8)) (hl : ∀ a, a ∈ l -> Two a) (hm : ∀ a, a ∈ m -> Two a) (k : Nat) (hk : k <= l.length) (h : l.length <= k + 126) (hL : l.length + m.length <= 3000) :
  unitU 1 ⟨[(nm, k)], fsts l ++ ledI line op 2 nm :: fsts m, fun _ => 0⟩ = some (.ok ⟨l.flatMap (·.2) ++ (shortB op (-((l.length : Int) - k + 2)) ++ m.flatMap (·.2)), [⟨nm, 2 * k⟩], []⟩) := by
 obtain ⟨t1, t2, t3⟩ := qDS line op 2 nm l m hl hm
 generalize hps : tellU 0 (fsts l ++ ledI line op 2 nm :: fsts m) = ps at *
 generalize hu : (⟨[(nm, k)], fsts l ++ ledI line op 2 nm :: fsts m, fun _ => 0⟩ : Un) = u
 have hui : u.items = fsts l ++ ledI line op 2 nm :: fsts m := by rw [<- hu]
 have hul : u.labels = [(nm, k)] := by rw [<- hu]
 have t0 := t1 k hk
 have tl := t1 l.length (Nat.le_refl _)
 have tn := t2 0 (by omega)
 simp only [Nat.add_zero] at tn
 have hg : goalU u ps (.val nm 0) = .ok (2 * (l.length : Int) + 4 + 2 * (-((l.length : Int) - k + 2))) := by
  rw [qEk hn hul, t0]; exact congrArg _ (by omega)
 have hlong : (longU u ps 0 (fsts l ++ ledI line op 2 nm :: fsts m)).2 = false := by
  have f := qFW (line := line) (size := 2) ho hg
  rw [decide_eq_true (by omega)] at f
  rw [qAS u ps l hl, longU, Nat.zero_add, tl, f]
  have := qAS u ps m hm [] (l.length + 1)
  rw [List.append_nil] at this
  simp [this, longU]
 have hlay : layU 1 u = some (.ok (u, ps)) := by
  simp only [layU, hui, hps, hlong, t3]
  rw [if_neg (by omega)]
  simp
 have hw : writeU u ps 0 [] [] (fsts l ++ ledI line op 2 nm :: fsts m) = .ok (l.flatMap (·.2) ++ (shortB op (-((l.length : Int) - k + 2)) ++ m.flatMap (·.2)), []) := by
  rw [qAo u ps l hl _ 0 0 [] [] (by decide) (by decide) (by intro j hj; rw [Nat.zero_add, t1 j hj]; omega)]
  rw [Nat.zero_add, writeU, tl, tn, if_neg (by simp [ledI, Int.mul_tmod_right]), show 2 * (l.length : Int) + 2 + 2 * ((0 : Nat) : Int) - 2 * l.length = 2 by omega, qGj ho hg (by omega) (by omega)]
  simp only []
  have := qAo u ps m hm [] (l.length + 1) (2 * l.length + 2) (([] ++ l.flatMap (·.2)) ++ shortB op (-((l.length : Int) - k + 2))) [] (by omega) (by omega) (by intro j hj; rw [t2 j hj])
  rw [List.append_nil] at this
  rw [this]
  simp [writeU]
 unfold unitU
 rw [hlay]
 simp only [hui]
 rw [hw]
 simp only [symsU, hul, List.map_cons, List.map_nil]
 rw [t0]
theorem mid_far {nm : List UInt8} (hn : nm ≠ []) {op : Int} (ho : op = 17 \/ op = 18) (line : Int) (l m : List (It × List UInt8)) (hl : ∀ a, a ∈ l -> Two a) (hm : ∀ a, a ∈ m -> Two a) (k : Nat) (hk : k <= l.length) (h : k + 126 < l.length) (hL : l.length + m.length <= 2000) :
  unitU 2 ⟨[(nm, k)], fsts l ++ ledI line op 2 nm :: fsts m, fun _ => 0⟩ = some (.ok ⟨l.flatMap (·.2) ++ (farB op (-((l.length : Int) - k + 3)) ++ m.flatMap (·.2)), [⟨nm, 2 * k⟩], []⟩) := by
 have e1 : layU 2 ⟨[(nm, k)], fsts l ++ ledI line op 2 nm :: fsts m, fun _ => 0⟩ = layU 1 ⟨[(nm, k)], fsts l ++ ledI line op 6 nm :: fsts m, fun _ => 0⟩ := by
  obtain ⟨t1, t2, t3⟩ := qDS line op 2 nm l m hl hm
  generalize hps : tellU 0 (fsts l ++ ledI line op 2 nm :: fsts m) = ps at *
  generalize hu : (⟨[(nm, k)], fsts l ++ ledI line op 2 nm :: fsts m, fun _ => 0⟩ : Un) = u
  have hui : u.items = fsts l ++ ledI line op 2 nm :: fsts m := by rw [<- hu]
  have hul : u.labels = [(nm, k)] := by rw [<- hu]
  have t0 := t1 k hk
  have tl := t1 l.length (Nat.le_refl _)
  have hg : goalU u ps (.val nm 0) = .ok (2 * (l.length : Int) + 4 + 2 * (-((l.length : Int) - k + 2))) := by
   rw [qEk hn hul, t0]; exact congrArg _ (by omega)
  have hlong : longU u ps 0 (fsts l ++ ledI line op 2 nm :: fsts m) = (fsts l ++ ledI line op 6 nm :: fsts m, true) := by
   have f := qFW (line := line) (size := 2) ho hg
   rw [decide_eq_false (by omega)] at f
   rw [qAS u ps l hl, longU, Nat.zero_add, tl, if_pos ⟨by simp [ledI], by rw [f]; rfl⟩]
   have := qAS u ps m hm [] (l.length + 1)
   rw [List.append_nil] at this
   simp [this, longU, ledI]
  rw [layU, hui, hps, hlong, t3]
  simp only []
  rw [if_neg (by omega), if_pos trivial, <- hu]
 obtain ⟨t1, t2, t3⟩ := qDS line op 6 nm l m hl hm
 generalize hps : tellU 0 (fsts l ++ ledI line op 6 nm :: fsts m) = ps at *
 generalize hu : (⟨[(nm, k)], fsts l ++ ledI line op 6 nm :: fsts m, fun _ => 0⟩ : Un) = u at *
 have hui : u.items = fsts l ++ ledI line op 6 nm :: fsts m := by rw [<- hu]
 have hul : u.labels = [(nm, k)] := by rw [<- hu]
 have t0 := t1 k hk
 have tl := t1 l.length (Nat.le_refl _)
 have tn := t2 0 (by omega)
 simp only [Nat.add_zero] at tn
 have hg : goalU u ps (.val nm 0) = .ok (2 * (l.length : Int) + 6 + 2 * (-((l.length : Int) - k + 3))) := by
  rw [qEk hn hul, t0]; exact congrArg _ (by omega)
 have hlong : (longU u ps 0 (fsts l ++ ledI line op 6 nm :: fsts m)).2 = false := by
  rw [qAS u ps l hl, longU, if_neg (by simp [ledI]), Nat.zero_add]
  have := qAS u ps m hm [] (l.length + 1)
  rw [List.append_nil] at this
  simp [this, longU]
 have hlay : layU 1 u = some (.ok (u, ps)) := by
  simp only [layU, hui, hps, hlong, t3]
  rw [if_neg (by omega)]
  simp
 have hw : writeU u ps 0 [] [] (fsts l ++ ledI line op 6 nm :: fsts m) = .ok (l.flatMap (·.2) ++ (farB op (-((l.length : Int) - k + 3)) ++ m.flatMap (·.2)), []) := by
  rw [qAo u ps l hl _ 0 0 [] [] (by decide) (by decide) (by intro j hj; rw [Nat.zero_add, t1 j hj]; omega)]
  rw [Nat.zero_add, writeU, tl, tn, if_neg (by simp [ledI, Int.mul_tmod_right]), show 2 * (l.length : Int) + 6 + 2 * ((0 : Nat) : Int) - 2 * l.length = 6 by omega, qIU hg (by omega) (by omega)]
  simp only []
  have := qAo u ps m hm [] (l.length + 1) (2 * l.length + 6) (([] ++ l.flatMap (·.2)) ++ farB op (-((l.length : Int) - k + 3))) [] (by omega) (by omega) (by intro j hj; rw [t2 j hj])
  rw [List.append_nil] at this
  rw [this]
  simp [writeU]
 unfold unitU
 rw [e1, hlay]
 simp only [hui]
 rw [hw]
 simp only [symsU, hul, List.map_cons, List.map_nil]
 rw [t0]
end Go.Proofs.YtfmljailbebfgaaGreatDoor
