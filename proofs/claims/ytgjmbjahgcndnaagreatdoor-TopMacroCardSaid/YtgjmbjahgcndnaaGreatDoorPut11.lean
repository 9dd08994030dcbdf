/- The table of package expr, its reader in memory, and the contracts of takeSign and takeKind. The contracts of isSign and of the reader's takeSign. The contract of the reader's takeKind. The contracts of isa's Signed and of package expr's leaf. -/
import Derived.Test.YtgjmbjahgcndnaaGreatDoorPut9
import Derived.Laws.Rows
namespace Go.Proofs.YtgjmbjahgcndnaaGreatDoor.Xp
open Go.RowKit

/-- The columns of the table 'kinds'. -/
def kKids (k : Int) : Int := [0, 0, 0, 1, 1, 2, 2, 2, 2, 2, 2, 2].getD k.toNat 0
def kSign (k : Int) : List UInt8 := [[], [], [], [45], [126], [42], [43], [45], [60, 60], [62, 62], [38], [124]].getD k.toNat []
def kStr (k : Int) : Int := [0, 0, 0, 0, 0, 5, 4, 4, 3, 3, 2, 1].getD k.toNat 0
def kCells : Array Value := ((List.range 12).flatMap fun k => [.int .i64 (kKids k), .string ⟨(kSign k).toArray⟩, .int .i64 (kStr k)]).toArray

/-- The table lies in memory as the text lays it. -/
structure KLaid (w : World) : Prop where
  sz : 11 < w.heap.size
  blk : ∃ t fr, w.heap[11]? = some (.cells kCells t fr)
  k0 : ∀ s : Int, 0 ≤ s → s ≤ 11 → w.cell? ⟨11, s.toNat * 3, none⟩ = some (.int .i64 (kKids s))
  k1 : ∀ s : Int, 0 ≤ s → s ≤ 11 → w.cell? ⟨11, s.toNat * 3 + 1, none⟩ = some (.string ⟨(kSign s).toArray⟩)
  k2 : ∀ s : Int, 0 ≤ s → s ≤ 11 → w.cell? ⟨11, s.toNat * 3 + 2, none⟩ = some (.int .i64 (kStr s))

theorem KLaid.below {B : Nat} {w w' : World} (h : KLaid w) (hb : Below B w w') (hB : 11 < B) : KLaid w' where
  sz := Nat.lt_of_lt_of_le h.sz hb.size
  blk := by rw [hb.block 11 (by omega)]; exact h.blk
  k0 s a b := by rw [hb.cell (by exact hB)]; exact h.k0 s a b
  k1 s a b := by rw [hb.cell (by exact hB)]; exact h.k1 s a b
  k2 s a b := by rw [hb.cell (by exact hB)]; exact h.k2 s a b

theorem gtrans {a b c : World} {r : Option Nat} (h : a.grownBy b r) (k : b.grownBy c r) : a.grownBy c r :=
  ⟨k.os.trans h.os, k.tape.trans h.tape, k.output.trans h.output, Nat.le_trans h.size k.size, fun i hi hr => (k.block i (Nat.lt_of_lt_of_le hi h.size) hr).trans (h.block i hi hr)⟩
theorem gbelow {w w' : World} {B : Nat} (r : Option Nat) (h : Below B w w') (hB : w.heap.size ≤ B) : w.grownBy w' r :=
  ⟨h.os, h.tape, h.output, h.size, fun i hi _ => h.block i (by omega)⟩
theorem below_of {w w' : World} {r N : Nat} (h : w.grownBy w' (some r)) (hr : N ≤ r) (hN : N ≤ w.heap.size) : Below N w w' :=
  (Below.refl N w).grown h hN (by intro k hk; cases hk; exact hr)
theorem gset (w : World) (B o : Nat) (v : Value) : w.grownBy (w.setCell ⟨B, o, none⟩ v) (some B) :=
  ⟨rfl, rfl, rfl, by simp, fun _ _ hne => Below.heap_setCell _ _ _ _ (fun e => hne (by rw [e]))⟩

theorem KLaid.by {w w' : World} {r : Nat} (h : KLaid w) (hg : w.grownBy w' (some r)) (hr : 11 < r) : KLaid w' :=
  h.below (below_of hg (N := 11 + 1) hr h.sz) (Nat.lt_succ_self _)

set_option maxRecDepth 100000 in
theorem kIndexAll (w : World) : ((List.range 12).map fun k : Nat => (Instr.index 377 (.agg kCells) (.int .i64 (k : Int))).run Tryz.prog w) = (List.range 12).map fun k : Nat => .ok (.agg #[.int .i64 (kKids k), .string ⟨(kSign k).toArray⟩, .int .i64 (kStr k)]) w := by kernel_rfl
theorem kIndex (k : Nat) (hk : k < 12) (w : World) : (Instr.index 377 (.agg kCells) (.int .i64 (k : Int))).run Tryz.prog w = .ok (.agg #[.int .i64 (kKids k), .string ⟨(kSign k).toArray⟩, .int .i64 (kStr k)]) w := by
  have h := congrArg (fun l => l[k]?) (kIndexAll w)
  simpa [hk] using h
theorem kSize : (Tryz.prog.info? 377).map (·.size) = some kCells.size := by kernel_rfl

/-- The reader at block B: tokens, of which c are read. -/
structure Rdr (w : World) (B : Nat) (ts : List Tok) (c : Nat) : Prop where
  le : c ≤ ts.length
  few : ts.length ≤ maxLen
  lt : B < w.heap.size
  cnt : w.cell? ⟨B, 1, none⟩ = some (.int .i64 c)
  fr : w.frozen? ⟨B, 1, none⟩ = false
  toks : ∃ ad cap, w.cell? ⟨B, 0, none⟩ = some (.slice ad ts.length cap) ∧ (0 < ts.length → ∃ b o, ad = some ⟨b, o, none⟩ ∧ b < B ∧ ∀ i (h : i < ts.length),
    w.cell? ⟨b, o + i * 3, none⟩ = some (.int .i64 ts[i].kind) ∧ w.cell? ⟨b, o + i * 3 + 1, none⟩ = some (.int .i64 ts[i].n) ∧ w.cell? ⟨b, o + i * 3 + 2, none⟩ = some (.string ⟨ts[i].text.toArray⟩))

theorem Rdr.keep {w w' : World} {B : Nat} {ts : List Tok} {c : Nat} (h : Rdr w B ts c) (hs : w.heap.size ≤ w'.heap.size) (hb : ∀ b, b ≤ B → w'.heap[b]? = w.heap[b]?) : Rdr w' B ts c := by
  have hc : ∀ b o, b ≤ B → w'.cell? ⟨b, o, none⟩ = w.cell? ⟨b, o, none⟩ := fun b o hl => World.cell?_of_block (w := w) (hb b hl)
  refine ⟨h.le, h.few, Nat.lt_of_lt_of_le h.lt hs, by rw [hc _ _ (Nat.le_refl _)]; exact h.cnt, (World.frozen?_of_block (w := w) (hb B (Nat.le_refl _))).trans h.fr, ?_⟩
  obtain ⟨ad, cap, h0, h1⟩ := h.toks
  refine ⟨ad, cap, by rw [hc _ _ (Nat.le_refl _)]; exact h0, fun hp => ?_⟩
  obtain ⟨b, o, e, hl, hcs⟩ := h1 hp
  refine ⟨b, o, e, hl, fun i hi => ?_⟩
  rw [hc _ _ (by omega), hc _ _ (by omega), hc _ _ (by omega)]
  exact hcs i hi
theorem Rdr.below {w w' : World} {B N : Nat} {ts : List Tok} {c : Nat} (h : Rdr w B ts c) (hb : Below N w w') (hN : B < N) : Rdr w' B ts c :=
  h.keep hb.size fun b hl => hb.block b (by omega)
theorem Rdr.set {w : World} {B : Nat} {ts : List Tok} {c : Nat} (h : Rdr w B ts c) (c' : Nat) (hc : c' ≤ ts.length) : Rdr (w.setCell ⟨B, 1, none⟩ (.int .i64 c')) B ts c' := by
  refine ⟨hc, h.few, by simpa using h.lt, World.cell?_setCell_same _ _ _ h.cnt, by rw [World.frozen?_setCell]; exact h.fr, ?_⟩
  obtain ⟨ad, cap, h0, h1⟩ := h.toks
  refine ⟨ad, cap, by rw [World.cell?_setCell_other _ _ _ _ (by intro e; cases e)]; exact h0, fun hp => ?_⟩
  obtain ⟨b, o, e, hl, hcs⟩ := h1 hp
  refine ⟨b, o, e, hl, fun i hi => ?_⟩
  have hne : ∀ j, (⟨B, 1, none⟩ : Addr) ≠ ⟨b, j, none⟩ := by intro j e; injection e with e1 _; omega
  rw [World.cell?_setCell_other _ _ _ _ (hne _), World.cell?_setCell_other _ _ _ _ (hne _), World.cell?_setCell_other _ _ _ _ (hne _)]
  exact hcs i hi

/-- Whether the next token is that sign. -/
def signIs (l : List Tok) (s : List UInt8) : Bool := match l with
  | [] => false
  | t :: _ => decide (t.kind = 3 ∧ t.text = s)

end Go.Proofs.YtgjmbjahgcndnaaGreatDoor.Xp

namespace Go.Proofs.YtgjmbjahgcndnaaGreatDoor.Xp
open Go.RowKit

theorem drop_tok {ts : List Tok} {c : Nat} (h : c < ts.length) : ts.drop c = ts[c] :: ts.drop (c + 1) := List.drop_eq_getElem_cons h

theorem bytes_beq (a : List UInt8) (s : ByteArray) : (a == s.toList) = decide (a = s.data.toList) := by
  rw [ByteArray.toList_eq]
  exact Bool.eq_iff_iff.2 (by simp)

theorem Rdr.draws {w : World} {B : Nat} {ts : List Tok} {c : Nat} (h : Rdr w B ts c) (n : Nat) : Rdr (w.drewN n) B ts c := h.below (Go.Joins.below_draws (B + 1) w n) (Nat.lt_succ_self _)
theorem gdraws (w : World) (n : Nat) (r : Option Nat) : w.grownBy (w.drewN n) r := gbelow r (Go.Joins.below_draws w.heap.size w n) (Nat.le_refl _)

/-- Whether a token is that sign. -/
def signT (t : Tok) (s : List UInt8) : Bool := decide (t.kind = 3 ∧ t.text = s)
theorem signIs_cons (t : Tok) (r : List Tok) (s : List UInt8) : signIs (t :: r) s = signT t s := rfl

theorem isSign_any (t : Tok) (s : ByteArray) (w : World) :
    Calls Tryz.prog 251 #[.agg #[.int .i64 t.kind, .int .i64 t.n, .string ⟨t.text.toArray⟩], .string s] w fun e w' => e = .returned (.bool (signT t s.data.toList)) ∧ Below w.heap.size w w' := by
  obtain ⟨kd, n, tx⟩ := t
  by_cases h3 : kd = 3
  · have HV : Hid (signT ⟨kd, n, tx⟩ s.data.toList = (tx == s.toList)) := by
      unfold Hid signT
      rw [bytes_beq]
      simp [h3]
    subst h3
    go_enter Tryz.func251, Tryz.ntmps251
    go_wp2
    go_ret
    exact ⟨by rw [HV.out]; rfl, (Below.refl _ _).alloc (Nat.le_refl _) _⟩
  · have e3 : (kd == 3) = false := by simp [h3]
    have HV : Hid (signT ⟨kd, n, tx⟩ s.data.toList = false) := by simp [Hid, signT, h3]
    go_enter Tryz.func251, Tryz.ntmps251
    go_wp2
    go_ret
    exact ⟨by rw [HV.out]; rfl, (Below.refl _ _).alloc (Nat.le_refl _) _⟩

/-- What the reader's cells hold stays, behind a callee that writes nothing old. -/
theorem keepR {w w1 w2 : World} {B b i0 i1 i2 : Nat} {x0 x1 y0 y1 y2 : Value} (hb : Below w1.heap.size w1 w2)
    (h : (B < w1.heap.size ∧ b < w1.heap.size) ∧ w1.cell? ⟨B, 0, none⟩ = some x0 ∧ w1.cell? ⟨B, 1, none⟩ = some x1 ∧ w1.frozen? ⟨B, 1, none⟩ = false ∧ w1.cell? ⟨b, i0, none⟩ = some y0 ∧ w1.cell? ⟨b, i1, none⟩ = some y1 ∧ w1.cell? ⟨b, i2, none⟩ = some y2 ∧ Below w.heap.size w w1) :
    (B < w2.heap.size ∧ b < w2.heap.size) ∧ w2.cell? ⟨B, 0, none⟩ = some x0 ∧ w2.cell? ⟨B, 1, none⟩ = some x1 ∧ w2.frozen? ⟨B, 1, none⟩ = false ∧ w2.cell? ⟨b, i0, none⟩ = some y0 ∧ w2.cell? ⟨b, i1, none⟩ = some y1 ∧ w2.cell? ⟨b, i2, none⟩ = some y2 ∧ Below w.heap.size w w2 := by
  obtain ⟨⟨h0, h00⟩, h1, h2, h3, h4, h5, h6, h7⟩ := h
  have hs := hb.size
  exact ⟨⟨by omega, by omega⟩, by rw [hb.cell (by exact h0)]; exact h1, by rw [hb.cell (by exact h0)]; exact h2, by rw [hb.frozen (by exact h0)]; exact h3, by rw [hb.cell (by exact h00)]; exact h4, by rw [hb.cell (by exact h00)]; exact h5, by rw [hb.cell (by exact h00)]; exact h6, h7.trans (hb.mono h7.size)⟩

end Go.Proofs.YtgjmbjahgcndnaaGreatDoor.Xp

namespace Go.Proofs.YtgjmbjahgcndnaaGreatDoor.Xp
open Go.RowKit

/-- Which kind, from k on, has so many Kids, is so strong, and has the next token as its sign: 0, if none has. -/
def kindFrom (kids st : Int) (l : List Tok) : Nat → Nat → Int
  | 0, _ => 0
  | f + 1, k => if kKids k = kids ∧ kStr k = st ∧ signIs l (kSign k) = true then (k : Int) else kindFrom kids st l f (k + 1)

theorem kind_yes {kids st : Int} {l : List Tok} {k : Nat} (hk : k < 12) (hf : kindFrom kids st l 12 0 = kindFrom kids st l (12 - k) k) (h : kKids k = kids ∧ kStr k = st ∧ signIs l (kSign k) = true) : kindFrom kids st l 12 0 = (k : Int) := by
  rw [hf]
  obtain ⟨j, hj⟩ : ∃ j, 12 - k = j + 1 := ⟨11 - k, by omega⟩
  rw [hj]
  unfold kindFrom
  rw [if_pos h]
theorem kind_no {kids st : Int} {l : List Tok} {k : Nat} (hk : k < 12) (hf : kindFrom kids st l 12 0 = kindFrom kids st l (12 - k) k) (h : ¬ (kKids k = kids ∧ kStr k = st ∧ signIs l (kSign k) = true)) : kindFrom kids st l 12 0 = kindFrom kids st l (12 - (k + 1)) (k + 1) := by
  rw [hf]
  obtain ⟨j, hj⟩ : ∃ j, 12 - k = j + 1 := ⟨11 - k, by omega⟩
  have hj' : 12 - (k + 1) = j := by omega
  rw [hj, hj']
  rw [kindFrom, if_neg h]

theorem sign_is {l : List Tok} {s : List UInt8} (hs : s ≠ []) : signIs l s = decide (signOf l = s) := by
  cases l with
  | nil => simp [signIs, signOf]; exact hs
  | cons t r =>
    by_cases h : t.kind = 3
    · simp [signIs, signOf, h]
    · simp [signIs, signOf, h]; exact hs

/-- How many tokens were taken. -/
def took (k : Int) : Nat := if k = 0 then 0 else 1

def kindAt (kids st : Int) (l : List Tok) : Int := kindFrom kids st l 12 0

theorem kindAt_one (l : List Tok) : kindAt 1 0 l = if signOf l = [45] then 3 else if signOf l = [126] then 4 else 0 := by
  unfold kindAt
  simp [kindFrom, kKids, kStr, kSign, sign_is]
theorem kindAt_two (st : Nat) (l : List Tok) (h1 : 1 ≤ st) (h5 : st ≤ 5) : kindAt 2 st l = if (strengthR (signOf l)).1 = st then (strengthR (signOf l)).2 else 0 := by
  unfold kindAt strengthR
  generalize hs : signOf l = s
  have : st = 1 ∨ st = 2 ∨ st = 3 ∨ st = 4 ∨ st = 5 := by omega
  by_cases e1 : s = [124]
  · subst e1; rcases this with rfl | rfl | rfl | rfl | rfl <;> simp [kindFrom, kKids, kStr, kSign, sign_is, hs]
  by_cases e2 : s = [38]
  · subst e2; rcases this with rfl | rfl | rfl | rfl | rfl <;> simp [kindFrom, kKids, kStr, kSign, sign_is, hs]
  by_cases e3 : s = [60, 60]
  · subst e3; rcases this with rfl | rfl | rfl | rfl | rfl <;> simp [kindFrom, kKids, kStr, kSign, sign_is, hs]
  by_cases e4 : s = [62, 62]
  · subst e4; rcases this with rfl | rfl | rfl | rfl | rfl <;> simp [kindFrom, kKids, kStr, kSign, sign_is, hs]
  by_cases e5 : s = [43]
  · subst e5; rcases this with rfl | rfl | rfl | rfl | rfl <;> simp [kindFrom, kKids, kStr, kSign, sign_is, hs]
  by_cases e6 : s = [45]
  · subst e6; rcases this with rfl | rfl | rfl | rfl | rfl <;> simp [kindFrom, kKids, kStr, kSign, sign_is, hs]
  by_cases e7 : s = [42]
  · subst e7; rcases this with rfl | rfl | rfl | rfl | rfl <;> simp [kindFrom, kKids, kStr, kSign, sign_is, hs]
  rcases this with rfl | rfl | rfl | rfl | rfl <;> simp [kindFrom, kKids, kStr, kSign, sign_is, hs, e1, e2, e3, e4, e5, e6, e7]

theorem Rdr.alloc {w : World} {B : Nat} {ts : List Tok} {c : Nat} (h : Rdr w B ts c) (o : Obj) : Rdr (w.alloc o) B ts c :=
  h.below ((Below.refl w.heap.size w).alloc (Nat.le_refl _) o) h.lt
theorem galloc (w : World) (o : Obj) (r : Option Nat) : w.grownBy (w.alloc o) r := gbelow r ((Below.refl w.heap.size w).alloc (Nat.le_refl _) o) (Nat.le_refl _)

/-- Which kind, from k on, has so many Kids, and has the token as its sign: 0, if none has. -/
def kindFromT (kids : Int) (t : Tok) : Nat → Nat → Int
  | 0, _ => 0
  | f + 1, k => if kKids k = kids ∧ signT t (kSign k) = true then (k : Int) else kindFromT kids t f (k + 1)
theorem kindT_yes {kids : Int} {t : Tok} {k : Nat} (hk : k < 12) (hf : kindFromT kids t 12 0 = kindFromT kids t (12 - k) k) (h : kKids k = kids ∧ signT t (kSign k) = true) : kindFromT kids t 12 0 = (k : Int) := by
  rw [hf]
  obtain ⟨j, hj⟩ : ∃ j, 12 - k = j + 1 := ⟨11 - k, by omega⟩
  rw [hj]
  unfold kindFromT
  rw [if_pos h]
theorem kindT_no {kids : Int} {t : Tok} {k : Nat} (hk : k < 12) (hf : kindFromT kids t 12 0 = kindFromT kids t (12 - k) k) (h : ¬ (kKids k = kids ∧ signT t (kSign k) = true)) : kindFromT kids t 12 0 = kindFromT kids t (12 - (k + 1)) (k + 1) := by
  rw [hf]
  obtain ⟨j, hj⟩ : ∃ j, 12 - k = j + 1 := ⟨11 - k, by omega⟩
  have hj' : 12 - (k + 1) = j := by omega
  rw [hj, hj']
  rw [kindFromT, if_neg h]
def kindT (kids : Int) (t : Tok) : Int := kindFromT kids t 12 0

theorem kindT_of {kids : Int} (hk : kids = 1 ∨ kids = 2) (st : Int) (t : Tok) (r : List Tok) : kindAt kids st (t :: r) = if kStr (kindT kids t) = st then kindT kids t else 0 := by
  have hT : ∀ s, signT t s = signIs (t :: r) s := fun _ => rfl
  unfold kindAt kindT
  generalize hl : t :: r = l at *
  generalize hs : signOf l = s
  rcases hk with rfl | rfl
  · by_cases e1 : s = [45]
    · subst e1; simp [kindFrom, kindFromT, kKids, kStr, kSign, hT, sign_is, hs]
    by_cases e2 : s = [126]
    · subst e2; simp [kindFrom, kindFromT, kKids, kStr, kSign, hT, sign_is, hs]
    simp [kindFrom, kindFromT, kKids, kStr, kSign, hT, sign_is, hs, e1, e2]
  · by_cases e1 : s = [124]
    · subst e1; simp [kindFrom, kindFromT, kKids, kStr, kSign, hT, sign_is, hs]
    by_cases e2 : s = [38]
    · subst e2; simp [kindFrom, kindFromT, kKids, kStr, kSign, hT, sign_is, hs]
    by_cases e3 : s = [60, 60]
    · subst e3; simp [kindFrom, kindFromT, kKids, kStr, kSign, hT, sign_is, hs]
    by_cases e4 : s = [62, 62]
    · subst e4; simp [kindFrom, kindFromT, kKids, kStr, kSign, hT, sign_is, hs]
    by_cases e5 : s = [43]
    · subst e5; simp [kindFrom, kindFromT, kKids, kStr, kSign, hT, sign_is, hs]
    by_cases e6 : s = [45]
    · subst e6; simp [kindFrom, kindFromT, kKids, kStr, kSign, hT, sign_is, hs]
    by_cases e7 : s = [42]
    · subst e7; simp [kindFrom, kindFromT, kKids, kStr, kSign, hT, sign_is, hs]
    simp [kindFrom, kindFromT, kKids, kStr, kSign, hT, sign_is, hs, e1, e2, e3, e4, e5, e6, e7]

theorem kindT_range (kids : Int) (t : Tok) : 0 ≤ kindT kids t ∧ kindT kids t ≤ 11 := by
  have : ∀ f k : Nat, f + k ≤ 12 → 0 ≤ kindFromT kids t f k ∧ kindFromT kids t f k ≤ 11 := by
    intro f
    induction f with
    | zero => intro k _; exact ⟨Int.le_refl _, by show (0 : Int) ≤ 11; omega⟩
    | succ f ih =>
      intro k hk
      unfold kindFromT
      split
      · omega
      · exact ih (k + 1) (by omega)
  exact this 12 0 (by omega)

/-- The token's box. -/
def TBox (w : World) (R : Nat) (t : Tok) : Prop := w.cell? ⟨R, 0, none⟩ = some (.int .i64 t.kind) ∧ w.cell? ⟨R, 1, none⟩ = some (.int .i64 t.n) ∧ w.cell? ⟨R, 2, none⟩ = some (.string ⟨t.text.toArray⟩)
theorem TBox.below {w w' : World} {R B : Nat} {t : Tok} (h : TBox w R t) (hb : Below B w w') (hR : R < B) : TBox w' R t :=
  ⟨by rw [hb.cell (by exact hR)]; exact h.1, by rw [hb.cell (by exact hR)]; exact h.2.1, by rw [hb.cell (by exact hR)]; exact h.2.2⟩
theorem tbox_new (w : World) (t : Tok) (ty : TypeId) : TBox (w.alloc (.cells #[.int .i64 t.kind, .int .i64 t.n, .string ⟨t.text.toArray⟩] ty)) w.heap.size t := by
  have h := heap_alloc_new w (.cells #[.int .i64 t.kind, .int .i64 t.n, .string ⟨t.text.toArray⟩] ty)
  refine ⟨?_, ?_, ?_⟩ <;> simp only [World.cell?, h] <;> rfl
theorem balloc (w : World) (o : Obj) : Below w.heap.size w (w.alloc o) := (Below.refl _ _).alloc (Nat.le_refl _) _

set_option maxHeartbeats 2000000 in
theorem kindOf_any (t : Tok) (kids : Int) (w : World) (hL : KLaid w) :
    Calls Tryz.prog 249 #[.agg #[.int .i64 t.kind, .int .i64 t.n, .string ⟨t.text.toArray⟩], .int .i64 kids] w fun e w' => e = .returned (.int .i64 (kindT kids t)) ∧ Below w.heap.size w w' := by
  obtain ⟨tt, fr, hblk0⟩ := hL.blk
  have hsz := hL.sz
  have hblk : ∀ O : Obj, (w.alloc O).heap[11]? = some (.cells kCells tt fr) := fun O => ((balloc w O).block 11 hsz).trans hblk0
  clear hblk0
  go_enter Tryz.func249, Tryz.ntmps249
  go_wp2_with (refine wpList_load_row rfl 377 _ rfl 11 rfl tt kCells fr _ (hblk _) Tryz.underlying377 rfl kSize ?_)
  clear hblk hL
  go_loopw [8] (fun i wr => ∃ k : Nat, k ≤ 12 ∧ i = .int .i64 k ∧ Hid (TBox wr w.heap.size t) ∧ w.heap.size < wr.heap.size ∧ Hid (Below w.heap.size w wr) ∧ Hid (kindFromT kids t 12 0 = kindFromT kids t (12 - k) k)) (fun i _ => 12 - (intOf i).toNat)
  case atStart => exact ⟨0, Nat.zero_le _, rfl, tbox_new _ _ _, by simp, balloc _ _, rfl⟩
  case round =>
    obtain ⟨k, hk, rfl, HT, hz, HB, HF⟩ := hrel
    by_cases hlt : k < 12
    · have hi := kIndex k hlt
      have hk' : (k : Int) < 12 := by omega
      obtain ⟨q0, q1, q2⟩ := HT.out
      have hN : ∀ O : Obj, Hid (TBox (wr.alloc O) w.heap.size t) ∧ w.heap.size < (wr.alloc O).heap.size ∧ Hid (Below w.heap.size w (wr.alloc O)) := fun O => ⟨HT.out.below (balloc wr O) hz, by simp; omega, HB.out.trans ((balloc wr O).mono (by omega))⟩
      have HN : Hid (∀ O : Obj, Hid (TBox (wr.alloc O) w.heap.size t) ∧ w.heap.size < (wr.alloc O).heap.size ∧ Hid (Below w.heap.size w (wr.alloc O))) := hN
      clear hN HT HB
      by_cases h1 : kKids k = kids
      · have e1 : (kKids k == kids) = true := by simpa using h1
        have HCall : Hid (∀ W, Calls Tryz.prog 251 #[.agg #[.int .i64 t.kind, .int .i64 t.n, .string ⟨t.text.toArray⟩], .string ⟨(kSign k).toArray⟩] W fun e w' => e = .returned (.bool (signT t (kSign k))) ∧ Below W.heap.size W w') := fun W => isSign_any t ⟨(kSign k).toArray⟩ W
        cases h3 : signT t (kSign k)
        · have HN2 : Hid (kindFromT kids t 12 0 = kindFromT kids t (12 - (k + 1)) (k + 1)) := kindT_no hlt HF.out (by simp [h3])
          clear HF
          go_wp2_with (go_at_call 251; refine (HCall.out _).mono ?_; rintro e w2 ⟨rfl, hb2⟩; rw [h3]; have HB2 : Hid (Below _ _ w2) := hb2; clear hb2)
          obtain ⟨n1, n2, n3⟩ := HN.out (.cells #[.int .i64 kids, .string ⟨(kSign k).toArray⟩, .int .i64 (kStr k)] 376)
          have hz2 : w.heap.size < wr.heap.size + 1 := by omega
          exact ⟨⟨k + 1, by omega, by go_num, n1.out.below HB2.out (by simpa using hz2), Nat.lt_of_lt_of_le n2 HB2.out.size, n3.out.trans (HB2.out.mono (by simpa using Nat.le_of_lt hz2)), HN2⟩, by simp [intOf]; omega⟩
        · have HN2 : Hid (kindT kids t = (k : Int)) := kindT_yes hlt HF.out ⟨h1, h3⟩
          clear HF
          go_wp2_with (go_at_call 251; refine (HCall.out _).mono ?_; rintro e w2 ⟨rfl, hb2⟩; rw [h3]; have HB2 : Hid (Below _ _ w2) := hb2; clear hb2)
          go_ret
          rw [HN2.out]
          obtain ⟨n1, n2, n3⟩ := HN.out (.cells #[.int .i64 kids, .string ⟨(kSign k).toArray⟩, .int .i64 (kStr k)] 376)
          have hz2 : w.heap.size < wr.heap.size + 1 := by omega
          exact ⟨rfl, n3.out.trans (HB2.out.mono (by simpa using Nat.le_of_lt hz2))⟩
      · have e1 : (kKids k == kids) = false := by simpa using h1
        have HN2 : Hid (kindFromT kids t 12 0 = kindFromT kids t (12 - (k + 1)) (k + 1)) := kindT_no hlt HF.out (by simp [h1])
        clear HF
        go_wp2
        obtain ⟨n1, n2, n3⟩ := HN.out (.cells #[.int .i64 (kKids k), .string ⟨(kSign k).toArray⟩, .int .i64 (kStr k)] 376)
        exact ⟨⟨k + 1, by omega, by go_num, n1, n2, n3, HN2⟩, by simp [intOf]; omega⟩
    · have hk' : ¬ (k : Int) < 12 := by omega
      have HX : Hid (kindT kids t = 0) := by
        unfold Hid kindT
        rw [HF.out, show 12 - k = 0 by omega]; rfl
      clear HF
      go_wp2
      go_ret
      rw [HX.out]
      exact ⟨rfl, HB.out⟩

theorem kindAt_nil (kids st : Int) : kindAt kids st [] = 0 := by
  simp [kindAt, kindFrom, signIs]

end Go.Proofs.YtgjmbjahgcndnaaGreatDoor.Xp

namespace Go.Proofs.YtgjmbjahgcndnaaGreatDoor.Xp
open Go.RowKit

theorem wrap_both (n : Int) : wrap64 (wrap32 n) = wrap32 n := by unfold wrap64 wrap32; omega

theorem signed_any (n : Int) (w : World) :
    Calls Tryz.prog 58 #[.int .i64 n] w fun e w' => e = .returned (.int .i64 (sgn n)) ∧ w = w' := by
  go_enter Tryz.func58, Tryz.ntmps58
  go_wp2
  go_ret
  refine ⟨ret_int ?_, rfl⟩
  unfold sgn
  exact wrap_both n

/-- What one token alone is. -/
def leafE (t : Tok) : Except Int Ex :=
  if t.kind = 2 then .ok (.mk 1 (sgn t.n) [] [])
  else if t.kind ≠ 1 then .error 2
  else if nameR t.text = true then .ok (.mk 2 0 t.text [])
  else .error 7
theorem leaf_cons (t : Tok) (r : List Tok) : leafR (t :: r) = match leafE t with
    | .ok e => .ok (e, r)
    | .error x => .error x := by
  unfold leafR leafE
  repeat' split
  all_goals simp_all

def exZ : Value := .agg #[.int .i64 0, .int .i64 0, .string ⟨#[]⟩, .slice none 0 0]
def leafV : Except Int Ex → Value
  | .ok e => .tuple #[exV e (.slice none 0 0), .int .i64 0]
  | .error x => .tuple #[exZ, .int .i64 x]

theorem leaf_any (t : Tok) (w : World) :
    Calls Tryz.prog 253 #[.agg #[.int .i64 t.kind, .int .i64 t.n, .string ⟨t.text.toArray⟩]] w fun e w' => e = .returned (leafV (leafE t)) ∧ Below w.heap.size w w' := by
  by_cases h2 : t.kind = 2
  · have e2 : (t.kind == 2) = true := by simpa using h2
    have HV : Hid (leafV (leafE t) = .tuple #[.agg #[.int .i64 1, .int .i64 (sgn t.n), .string ⟨#[]⟩, .slice none 0 0], .int .i64 0]) := by simp [Hid, leafV, leafE, h2, exV, Ex.kind, Ex.n, Ex.name]
    go_enter Tryz.func253, Tryz.ntmps253
    go_wp2_with (go_at_call 58; refine (signed_any _ _).mono ?_; rintro e w' ⟨rfl, rfl⟩)
    exact bodyPost_ret (v := .tuple #[.agg #[.int .i64 1, .int .i64 (sgn t.n), .string ⟨#[]⟩, .slice none 0 0], .int .i64 0]) (by simp [results, Tryz.results253, go_sem]) rfl ⟨by rw [HV.out], ((Below.refl _ _).alloc (Nat.le_refl _) _).alloc (by simp) _⟩
  · have e2 : (t.kind == 2) = false := by simpa using h2
    by_cases h1 : t.kind = 1
    · have e1 : (t.kind != 1) = false := by simp [h1]
      cases hn : nameR t.text
      · have HV : Hid (leafV (leafE t) = .tuple #[.agg #[.int .i64 0, .int .i64 0, .string ⟨#[]⟩, .slice none 0 0], .int .i64 7]) := by simp [Hid, leafV, leafE, h1, hn, exZ]
        go_enter Tryz.func253, Tryz.ntmps253
        go_wp2_with (go_at_call 75; refine (name_any _ _).mono ?_; rintro e w' ⟨rfl, rfl⟩; simp only [hn])
        exact bodyPost_ret (v := .tuple #[.agg #[.int .i64 0, .int .i64 0, .string ⟨#[]⟩, .slice none 0 0], .int .i64 7]) (by simp [results, Tryz.results253, go_sem]) rfl ⟨by rw [HV.out], ((Below.refl _ _).alloc (Nat.le_refl _) _).alloc (by simp) _⟩
      · have HV : Hid (leafV (leafE t) = .tuple #[.agg #[.int .i64 2, .int .i64 0, .string ⟨t.text.toArray⟩, .slice none 0 0], .int .i64 0]) := by simp [Hid, leafV, leafE, h1, hn, exV, Ex.kind, Ex.n, Ex.name]
        go_enter Tryz.func253, Tryz.ntmps253
        go_wp2_with (go_at_call 75; refine (name_any _ _).mono ?_; rintro e w' ⟨rfl, rfl⟩; simp only [hn])
        exact bodyPost_ret (v := .tuple #[.agg #[.int .i64 2, .int .i64 0, .string ⟨t.text.toArray⟩, .slice none 0 0], .int .i64 0]) (by simp [results, Tryz.results253, go_sem]) rfl ⟨by rw [HV.out], ((Below.refl _ _).alloc (Nat.le_refl _) _).alloc (by simp) _⟩
    · have e1 : (t.kind != 1) = true := by simp [h1]
      have HV : Hid (leafV (leafE t) = .tuple #[.agg #[.int .i64 0, .int .i64 0, .string ⟨#[]⟩, .slice none 0 0], .int .i64 2]) := by simp [Hid, leafV, leafE, h1, h2, exZ]
      go_enter Tryz.func253, Tryz.ntmps253
      go_wp2
      exact bodyPost_ret (v := .tuple #[.agg #[.int .i64 0, .int .i64 0, .string ⟨#[]⟩, .slice none 0 0], .int .i64 2]) (by simp [results, Tryz.results253, go_sem]) rfl ⟨by rw [HV.out], ((Below.refl _ _).alloc (Nat.le_refl _) _).alloc (by simp) _⟩

end Go.Proofs.YtgjmbjahgcndnaaGreatDoor.Xp
