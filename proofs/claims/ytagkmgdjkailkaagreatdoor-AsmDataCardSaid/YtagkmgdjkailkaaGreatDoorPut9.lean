/- The table of package expr, its reader in memory, and the contracts of takeSign and takeKind. The contracts of isSign and of the reader's takeSign. Reading by layers: what is read of one strength out of what is read of the next stronger one; no program in this text. -/
import Derived.Test.YtagkmgdjkailkaaGreatDoorPut8
import Derived.Laws.Rows
namespace Go.Proofs.YtagkmgdjkailkaaGreatDoor.Xp
open Go.RowKit

/-- The columns of the table 'kinds'. -/
def kKids (k : Int) : Int := [0, 0, 0, 1, 1, 2, 2, 2, 2, 2, 2, 2].getD k.toNat 0
def kSign (k : Int) : List UInt8 := [[], [], [], [45], [126], [42], [43], [45], [60, 60], [62, 62], [38], [124]].getD k.toNat []
def kStr (k : Int) : Int := [0, 0, 0, 0, 0, 5, 4, 4, 3, 3, 2, 1].getD k.toNat 0
def kCells : Array Value := ((List.range 12).flatMap fun k => [.int .i64 (kKids k), .string ⟨(kSign k).toArray⟩, .int .i64 (kStr k)]).toArray

/-- The table lies in memory as the text lays it. -/
structure KLaid (w : World) : Prop where
  sz : 11 < w.heap.size
  blk : ∃ t fr, w.heap[11]? = some (.cells kCells t fr)
  k0 : ∀ s : Int, 0 ≤ s → s ≤ 11 → w.cell? ⟨11, s.toNat * 3, none⟩ = some (.int .i64 (kKids s))
  k1 : ∀ s : Int, 0 ≤ s → s ≤ 11 → w.cell? ⟨11, s.toNat * 3 + 1, none⟩ = some (.string ⟨(kSign s).toArray⟩)
  k2 : ∀ s : Int, 0 ≤ s → s ≤ 11 → w.cell? ⟨11, s.toNat * 3 + 2, none⟩ = some (.int .i64 (kStr s))

theorem KLaid.below {B : Nat} {w w' : World} (h : KLaid w) (hb : Below B w w') (hB : 11 < B) : KLaid w' where
  sz := Nat.lt_of_lt_of_le h.sz hb.size
  blk := by rw [hb.block 11 (by omega)]; exact h.blk
  k0 s a b := by rw [hb.cell (by exact hB)]; exact h.k0 s a b
  k1 s a b := by rw [hb.cell (by exact hB)]; exact h.k1 s a b
  k2 s a b := by rw [hb.cell (by exact hB)]; exact h.k2 s a b

theorem gtrans {a b c : World} {r : Option Nat} (h : a.grownBy b r) (k : b.grownBy c r) : a.grownBy c r :=
  ⟨k.os.trans h.os, k.tape.trans h.tape, k.output.trans h.output, Nat.le_trans h.size k.size, fun i hi hr => (k.block i (Nat.lt_of_lt_of_le hi h.size) hr).trans (h.block i hi hr)⟩
theorem gbelow {w w' : World} {B : Nat} (r : Option Nat) (h : Below B w w') (hB : w.heap.size ≤ B) : w.grownBy w' r :=
  ⟨h.os, h.tape, h.output, h.size, fun i hi _ => h.block i (by omega)⟩
theorem below_of {w w' : World} {r N : Nat} (h : w.grownBy w' (some r)) (hr : N ≤ r) (hN : N ≤ w.heap.size) : Below N w w' :=
  (Below.refl N w).grown h hN (by intro k hk; cases hk; exact hr)
theorem gset (w : World) (B o : Nat) (v : Value) : w.grownBy (w.setCell ⟨B, o, none⟩ v) (some B) :=
  ⟨rfl, rfl, rfl, by simp, fun _ _ hne => Below.heap_setCell _ _ _ _ (fun e => hne (by rw [e]))⟩

theorem KLaid.by {w w' : World} {r : Nat} (h : KLaid w) (hg : w.grownBy w' (some r)) (hr : 11 < r) : KLaid w' :=
  h.below (below_of hg (N := 11 + 1) hr h.sz) (Nat.lt_succ_self _)

set_option maxRecDepth 100000 in
theorem kIndexAll (w : World) : ((List.range 12).map fun k : Nat => (Instr.index 328 (.agg kCells) (.int .i64 (k : Int))).run Tryz.prog w) = (List.range 12).map fun k : Nat => .ok (.agg #[.int .i64 (kKids k), .string ⟨(kSign k).toArray⟩, .int .i64 (kStr k)]) w := by kernel_rfl
theorem kIndex (k : Nat) (hk : k < 12) (w : World) : (Instr.index 328 (.agg kCells) (.int .i64 (k : Int))).run Tryz.prog w = .ok (.agg #[.int .i64 (kKids k), .string ⟨(kSign k).toArray⟩, .int .i64 (kStr k)]) w := by
  have h := congrArg (fun l => l[k]?) (kIndexAll w)
  simpa [hk] using h
theorem kSize : (Tryz.prog.info? 328).map (·.size) = some kCells.size := by kernel_rfl

/-- The reader at block B: tokens, of which c are read. -/
structure Rdr (w : World) (B : Nat) (ts : List Tok) (c : Nat) : Prop where
  le : c ≤ ts.length
  few : ts.length ≤ maxLen
  lt : B < w.heap.size
  cnt : w.cell? ⟨B, 1, none⟩ = some (.int .i64 c)
  fr : w.frozen? ⟨B, 1, none⟩ = false
  toks : ∃ ad cap, w.cell? ⟨B, 0, none⟩ = some (.slice ad ts.length cap) ∧ (0 < ts.length → ∃ b o, ad = some ⟨b, o, none⟩ ∧ b < B ∧ ∀ i (h : i < ts.length),
    w.cell? ⟨b, o + i * 3, none⟩ = some (.int .i64 ts[i].kind) ∧ w.cell? ⟨b, o + i * 3 + 1, none⟩ = some (.int .i64 ts[i].n) ∧ w.cell? ⟨b, o + i * 3 + 2, none⟩ = some (.string ⟨ts[i].text.toArray⟩))

theorem Rdr.keep {w w' : World} {B : Nat} {ts : List Tok} {c : Nat} (h : Rdr w B ts c) (hs : w.heap.size ≤ w'.heap.size) (hb : ∀ b, b ≤ B → w'.heap[b]? = w.heap[b]?) : Rdr w' B ts c := by
  have hc : ∀ b o, b ≤ B → w'.cell? ⟨b, o, none⟩ = w.cell? ⟨b, o, none⟩ := fun b o hl => World.cell?_of_block (w := w) (hb b hl)
  refine ⟨h.le, h.few, Nat.lt_of_lt_of_le h.lt hs, by rw [hc _ _ (Nat.le_refl _)]; exact h.cnt, (World.frozen?_of_block (w := w) (hb B (Nat.le_refl _))).trans h.fr, ?_⟩
  obtain ⟨ad, cap, h0, h1⟩ := h.toks
  refine ⟨ad, cap, by rw [hc _ _ (Nat.le_refl _)]; exact h0, fun hp => ?_⟩
  obtain ⟨b, o, e, hl, hcs⟩ := h1 hp
  refine ⟨b, o, e, hl, fun i hi => ?_⟩
  rw [hc _ _ (by omega), hc _ _ (by omega), hc _ _ (by omega)]
  exact hcs i hi
theorem Rdr.below {w w' : World} {B N : Nat} {ts : List Tok} {c : Nat} (h : Rdr w B ts c) (hb : Below N w w') (hN : B < N) : Rdr w' B ts c :=
  h.keep hb.size fun b hl => hb.block b (by omega)
theorem Rdr.set {w : World} {B : Nat} {ts : List Tok} {c : Nat} (h : Rdr w B ts c) (c' : Nat) (hc : c' ≤ ts.length) : Rdr (w.setCell ⟨B, 1, none⟩ (.int .i64 c')) B ts c' := by
  refine ⟨hc, h.few, by simpa using h.lt, World.cell?_setCell_same _ _ _ h.cnt, by rw [World.frozen?_setCell]; exact h.fr, ?_⟩
  obtain ⟨ad, cap, h0, h1⟩ := h.toks
  refine ⟨ad, cap, by rw [World.cell?_setCell_other _ _ _ _ (by intro e; cases e)]; exact h0, fun hp => ?_⟩
  obtain ⟨b, o, e, hl, hcs⟩ := h1 hp
  refine ⟨b, o, e, hl, fun i hi => ?_⟩
  have hne : ∀ j, (⟨B, 1, none⟩ : Addr) ≠ ⟨b, j, none⟩ := by intro j e; injection e with e1 _; omega
  rw [World.cell?_setCell_other _ _ _ _ (hne _), World.cell?_setCell_other _ _ _ _ (hne _), World.cell?_setCell_other _ _ _ _ (hne _)]
  exact hcs i hi

/-- Whether the next token is that sign. -/
def signIs (l : List Tok) (s : List UInt8) : Bool := match l with
  | [] => false
  | t :: _ => decide (t.kind = 3 ∧ t.text = s)

end Go.Proofs.YtagkmgdjkailkaaGreatDoor.Xp

namespace Go.Proofs.YtagkmgdjkailkaaGreatDoor.Xp
open Go.RowKit

theorem drop_tok {ts : List Tok} {c : Nat} (h : c < ts.length) : ts.drop c = ts[c] :: ts.drop (c + 1) := List.drop_eq_getElem_cons h

theorem bytes_beq (a : List UInt8) (s : ByteArray) : (a == s.toList) = decide (a = s.data.toList) := by
  rw [ByteArray.toList_eq]
  exact Bool.eq_iff_iff.2 (by simp)

theorem Rdr.draws {w : World} {B : Nat} {ts : List Tok} {c : Nat} (h : Rdr w B ts c) (n : Nat) : Rdr (w.drewN n) B ts c := h.below (Go.Joins.below_draws (B + 1) w n) (Nat.lt_succ_self _)
theorem gdraws (w : World) (n : Nat) (r : Option Nat) : w.grownBy (w.drewN n) r := gbelow r (Go.Joins.below_draws w.heap.size w n) (Nat.le_refl _)

/-- Whether a token is that sign. -/
def signT (t : Tok) (s : List UInt8) : Bool := decide (t.kind = 3 ∧ t.text = s)
theorem signIs_cons (t : Tok) (r : List Tok) (s : List UInt8) : signIs (t :: r) s = signT t s := rfl

theorem isSign_any (t : Tok) (s : ByteArray) (w : World) :
    Calls Tryz.prog 217 #[.agg #[.int .i64 t.kind, .int .i64 t.n, .string ⟨t.text.toArray⟩], .string s] w fun e w' => e = .returned (.bool (signT t s.data.toList)) ∧ Below w.heap.size w w' := by
  obtain ⟨kd, n, tx⟩ := t
  by_cases h3 : kd = 3
  · have HV : Hid (signT ⟨kd, n, tx⟩ s.data.toList = (tx == s.toList)) := by
      unfold Hid signT
      rw [bytes_beq]
      simp [h3]
    subst h3
    go_enter Tryz.func217, Tryz.ntmps217
    go_wp2
    go_ret
    exact ⟨by rw [HV.out]; rfl, (Below.refl _ _).alloc (Nat.le_refl _) _⟩
  · have e3 : (kd == 3) = false := by simp [h3]
    have HV : Hid (signT ⟨kd, n, tx⟩ s.data.toList = false) := by simp [Hid, signT, h3]
    go_enter Tryz.func217, Tryz.ntmps217
    go_wp2
    go_ret
    exact ⟨by rw [HV.out]; rfl, (Below.refl _ _).alloc (Nat.le_refl _) _⟩

/-- What the reader's cells hold stays, behind a callee that writes nothing old. -/
theorem keepR {w w1 w2 : World} {B b i0 i1 i2 : Nat} {x0 x1 y0 y1 y2 : Value} (hb : Below w1.heap.size w1 w2)
    (h : (B < w1.heap.size ∧ b < w1.heap.size) ∧ w1.cell? ⟨B, 0, none⟩ = some x0 ∧ w1.cell? ⟨B, 1, none⟩ = some x1 ∧ w1.frozen? ⟨B, 1, none⟩ = false ∧ w1.cell? ⟨b, i0, none⟩ = some y0 ∧ w1.cell? ⟨b, i1, none⟩ = some y1 ∧ w1.cell? ⟨b, i2, none⟩ = some y2 ∧ Below w.heap.size w w1) :
    (B < w2.heap.size ∧ b < w2.heap.size) ∧ w2.cell? ⟨B, 0, none⟩ = some x0 ∧ w2.cell? ⟨B, 1, none⟩ = some x1 ∧ w2.frozen? ⟨B, 1, none⟩ = false ∧ w2.cell? ⟨b, i0, none⟩ = some y0 ∧ w2.cell? ⟨b, i1, none⟩ = some y1 ∧ w2.cell? ⟨b, i2, none⟩ = some y2 ∧ Below w.heap.size w w2 := by
  obtain ⟨⟨h0, h00⟩, h1, h2, h3, h4, h5, h6, h7⟩ := h
  have hs := hb.size
  exact ⟨⟨by omega, by omega⟩, by rw [hb.cell (by exact h0)]; exact h1, by rw [hb.cell (by exact h0)]; exact h2, by rw [hb.frozen (by exact h0)]; exact h3, by rw [hb.cell (by exact h00)]; exact h4, by rw [hb.cell (by exact h00)]; exact h5, by rw [hb.cell (by exact h00)]; exact h6, h7.trans (hb.mono h7.size)⟩

end Go.Proofs.YtagkmgdjkailkaaGreatDoor.Xp

namespace Go.Proofs.YtagkmgdjkailkaaGreatDoor.Xp
open Go.RowKit

def Pr (deep : Nat) (l : List Tok) (r : Except Int (Ex × List Tok)) : Prop := ∃ f, primeR f deep l = some r
def Lv (s deep : Nat) (l : List Tok) (r : Except Int (Ex × List Tok)) : Prop := ∃ f, climbR f s deep l = some r
def Mo (s deep : Nat) (e : Ex) (l : List Tok) (r : Except Int (Ex × List Tok)) : Prop := ∃ f, moreR f s deep e l = some r

theorem strength_le (s : List UInt8) : (strengthR s).1 ≤ 5 := by
  unfold strengthR
  repeat' split
  all_goals decide

theorem Lv.of {s deep : Nat} {l l' : List Tok} {e : Ex} {r} (h : Pr deep l (.ok (e, l'))) (hm : Mo s deep e l' r) : Lv s deep l r := by
  obtain ⟨f, hf⟩ := h
  obtain ⟨g, hg⟩ := hm
  refine ⟨f + g + 1, ?_⟩
  rw [climbR, prime_le (show f ≤ f + g by omega) hf]
  exact rest_le (by omega) hg
theorem Lv.bad {s deep : Nat} {l : List Tok} {x : Int} (h : Pr deep l (.error x)) : Lv s deep l (.error x) := by
  obtain ⟨f, hf⟩ := h
  exact ⟨f + 1, by rw [climbR, hf]⟩
theorem Mo.stop {s deep : Nat} {e : Ex} {l : List Tok} (h : (strengthR (signOf l)).1 < s) : Mo s deep e l (.ok (e, l)) := ⟨1, by rw [moreR, if_pos h]⟩
theorem Mo.bad {s deep : Nat} {e : Ex} {l : List Tok} {x : Int} (h : ¬ (strengthR (signOf l)).1 < s) (hl : Lv ((strengthR (signOf l)).1 + 1) deep l.tail (.error x)) : Mo s deep e l (.error x) := by
  obtain ⟨f, hf⟩ := hl
  exact ⟨f + 1, by rw [moreR, if_neg h, hf]⟩
theorem Mo.step {s deep : Nat} {e k : Ex} {l l' : List Tok} {r} (h : ¬ (strengthR (signOf l)).1 < s) (hl : Lv ((strengthR (signOf l)).1 + 1) deep l.tail (.ok (k, l')))
    (hm : Mo s deep (.mk (strengthR (signOf l)).2 0 [] [e, k]) l' r) : Mo s deep e l r := by
  obtain ⟨f, hf⟩ := hl
  obtain ⟨g, hg⟩ := hm
  refine ⟨f + g + 1, ?_⟩
  rw [moreR, if_neg h, climb_le (show f ≤ f + g by omega) hf]
  exact rest_le (by omega) hg

theorem Lv.six {deep : Nat} {l : List Tok} {r} (h : Pr deep l r) : Lv 6 deep l r := by
  cases r with
  | error x => exact .bad h
  | ok y => exact .of h (.stop (by have := strength_le (signOf y.2); omega))

theorem stop_all : ∀ (f : Nat), (∀ s deep l e r, climbR f s deep l = some (.ok (e, r)) → (strengthR (signOf r)).1 < s) ∧ (∀ s deep k l e r, moreR f s deep k l = some (.ok (e, r)) → (strengthR (signOf r)).1 < s)
  | 0 => ⟨fun _ _ _ _ _ h => by simp [climbR] at h, fun _ _ _ _ _ _ h => by simp [moreR] at h⟩
  | f + 1 => by
    obtain ⟨i1, i2⟩ := stop_all f
    refine ⟨fun s deep l e r h => ?_, fun s deep k l e r h => ?_⟩
    · rw [climbR] at h
      cases hp : primeR f deep l with
      | none => rw [hp] at h; cases h
      | some x =>
        rw [hp] at h
        cases x with
        | error e => cases h
        | ok y => exact i2 _ _ _ _ _ _ h
    · rw [moreR] at h
      by_cases h6 : (strengthR (signOf l)).1 < s
      · rw [if_pos h6] at h
        injection h with h
        injection h with h
        injection h with h1 h2
        subst h1 h2
        exact h6
      rw [if_neg h6] at h
      cases hp : climbR f ((strengthR (signOf l)).1 + 1) deep l.tail with
      | none => rw [hp] at h; cases h
      | some x =>
        rw [hp] at h
        cases x with
        | error e => cases h
        | ok y => exact i2 _ _ _ _ _ _ h
theorem Lv.stop {s deep : Nat} {l l' : List Tok} {e : Ex} (h : Lv s deep l (.ok (e, l'))) : (strengthR (signOf l')).1 < s := by
  obtain ⟨f, hf⟩ := h
  exact (stop_all f).1 _ _ _ _ _ hf

theorem more_on : ∀ (f s deep : Nat) (e : Ex) (l : List Tok),
    (∀ x, moreR f (s + 1) deep e l = some (.error x) → Mo s deep e l (.error x)) ∧
    (∀ k l' r, moreR f (s + 1) deep e l = some (.ok (k, l')) → Mo s deep k l' r → Mo s deep e l r)
  | 0, _, _, _, _ => ⟨fun _ h => by simp [moreR] at h, fun _ _ _ h => by simp [moreR] at h⟩
  | f + 1, s, deep, e, l => by
    by_cases h6 : (strengthR (signOf l)).1 < s + 1
    · refine ⟨fun x h => ?_, fun k l' r h hm => ?_⟩
      · rw [moreR, if_pos h6] at h; cases h
      · rw [moreR, if_pos h6] at h
        injection h with h
        injection h with h
        injection h with h1 h2
        subst h1 h2
        exact hm
    · have h7 : ¬ (strengthR (signOf l)).1 < s := by omega
      refine ⟨fun x h => ?_, fun k l' r h hm => ?_⟩
      · rw [moreR, if_neg h6] at h
        cases hp : climbR f ((strengthR (signOf l)).1 + 1) deep l.tail with
        | none => rw [hp] at h; cases h
        | some y =>
          rw [hp] at h
          cases y with
          | error z => injection h with h; exact h ▸ .bad h7 ⟨f, hp⟩
          | ok y => exact .step h7 ⟨f, hp⟩ ((more_on f s deep _ _).1 _ h)
      · rw [moreR, if_neg h6] at h
        cases hp : climbR f ((strengthR (signOf l)).1 + 1) deep l.tail with
        | none => rw [hp] at h; cases h
        | some y =>
          rw [hp] at h
          cases y with
          | error z => cases h
          | ok y => exact .step h7 ⟨f, hp⟩ ((more_on f s deep _ _).2 _ _ _ h hm)

theorem Lv.err {s deep : Nat} {l : List Tok} {x : Int} (h : Lv (s + 1) deep l (.error x)) : Lv s deep l (.error x) := by
  obtain ⟨f, hf⟩ := h
  cases f with
  | zero => simp [climbR] at hf
  | succ f =>
    rw [climbR] at hf
    cases hp : primeR f deep l with
    | none => rw [hp] at hf; cases hf
    | some y =>
      rw [hp] at hf
      cases y with
      | error z => injection hf with hf; exact hf ▸ .bad ⟨f, hp⟩
      | ok y => exact .of ⟨f, hp⟩ ((more_on f s deep _ _).1 _ hf)
theorem Lv.on {s deep : Nat} {l l' : List Tok} {e : Ex} {r} (h : Lv (s + 1) deep l (.ok (e, l'))) (hm : Mo s deep e l' r) : Lv s deep l r := by
  obtain ⟨f, hf⟩ := h
  cases f with
  | zero => simp [climbR] at hf
  | succ f =>
    rw [climbR] at hf
    cases hp : primeR f deep l with
    | none => rw [hp] at hf; cases hf
    | some y =>
      rw [hp] at hf
      cases y with
      | error z => cases hf
      | ok y => exact .of ⟨f, hp⟩ ((more_on f s deep _ _).2 _ _ _ hf hm)

theorem Pr.deep {deep : Nat} {l : List Tok} (h : 6 < deep) : Pr deep l (.error 10) := ⟨1, by rw [primeR, if_pos h]⟩
theorem Pr.neg {deep : Nat} {l : List Tok} {k : Ex} {r : List Tok} (h : ¬ 6 < deep) (hs : signOf l = [45]) (hk : Pr (deep + 1) l.tail (.ok (k, r))) : Pr deep l (.ok (.mk 3 0 [] [k], r)) := by
  obtain ⟨f, hf⟩ := hk
  exact ⟨f + 1, by rw [primeR, if_neg h, if_pos hs, hf]⟩
theorem Pr.not {deep : Nat} {l : List Tok} {k : Ex} {r : List Tok} (h : ¬ 6 < deep) (hs : signOf l = [126]) (hk : Pr (deep + 1) l.tail (.ok (k, r))) : Pr deep l (.ok (.mk 4 0 [] [k], r)) := by
  obtain ⟨f, hf⟩ := hk
  exact ⟨f + 1, by rw [primeR, if_neg h, if_neg (by rw [hs]; decide), if_pos hs, hf]⟩
theorem Pr.one {deep : Nat} {l : List Tok} {x : Int} (h : ¬ 6 < deep) (hs : signOf l = [45] ∨ signOf l = [126]) (hk : Pr (deep + 1) l.tail (.error x)) : Pr deep l (.error x) := by
  obtain ⟨f, hf⟩ := hk
  rcases hs with hs | hs
  · exact ⟨f + 1, by rw [primeR, if_neg h, if_pos hs, hf]⟩
  · exact ⟨f + 1, by rw [primeR, if_neg h, if_neg (by rw [hs]; decide), if_pos hs, hf]⟩
theorem Pr.brack {deep : Nat} {l : List Tok} {k : Ex} {r : List Tok} (h : ¬ 6 < deep) (hs : signOf l = [40]) (hk : Lv 1 (deep + 1) l.tail (.ok (k, r))) (hr : signOf r = [41]) : Pr deep l (.ok (k, r.tail)) := by
  obtain ⟨f, hf⟩ := hk
  refine ⟨f + 1, ?_⟩
  rw [primeR, if_neg h, if_neg (by rw [hs]; decide), if_neg (by rw [hs]; decide), if_pos hs, hf]
  simp only [if_pos hr]
theorem Pr.unshut {deep : Nat} {l : List Tok} {k : Ex} {r : List Tok} (h : ¬ 6 < deep) (hs : signOf l = [40]) (hk : Lv 1 (deep + 1) l.tail (.ok (k, r))) (hr : ¬ signOf r = [41]) : Pr deep l (.error 2) := by
  obtain ⟨f, hf⟩ := hk
  refine ⟨f + 1, ?_⟩
  rw [primeR, if_neg h, if_neg (by rw [hs]; decide), if_neg (by rw [hs]; decide), if_pos hs, hf]
  simp only [if_neg hr]
theorem Pr.inner {deep : Nat} {l : List Tok} {x : Int} (h : ¬ 6 < deep) (hs : signOf l = [40]) (hk : Lv 1 (deep + 1) l.tail (.error x)) : Pr deep l (.error x) := by
  obtain ⟨f, hf⟩ := hk
  exact ⟨f + 1, by rw [primeR, if_neg h, if_neg (by rw [hs]; decide), if_neg (by rw [hs]; decide), if_pos hs, hf]⟩
theorem Pr.leaf {deep : Nat} {l : List Tok} (h : ¬ 6 < deep) (h1 : ¬ signOf l = [45]) (h2 : ¬ signOf l = [126]) (h3 : ¬ signOf l = [40]) : Pr deep l (leafR l) := ⟨1, by rw [primeR, if_neg h, if_neg h1, if_neg h2, if_neg h3]⟩

end Go.Proofs.YtagkmgdjkailkaaGreatDoor.Xp
