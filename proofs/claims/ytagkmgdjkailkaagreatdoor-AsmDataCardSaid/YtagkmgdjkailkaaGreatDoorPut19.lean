/- Tokens in memory, and the contract of the document's own SameTokens at equal lists. The contract of scan's Print. Sources and their lines, as functions of lists of bytes; bytes in memory. The contract of scan's Lines. -/
import Derived.Test.YtagkmgdjkailkaaGreatDoorPut18
import Derived.Laws.CopyOwn
import Derived.Deep.OwnRows
import Derived.Lib.ItoaMem
import Derived.Lib.AppendIntMem
import Derived.Lib.ItoaLen
import Derived.Lib.Join
import Derived.Laws.BytesArg
import Derived.Lib.SplitLaws
namespace Go.Proofs.YtagkmgdjkailkaaGreatDoor.Sc
open Go.RowKit

/-- The slice v reads as the tokens ts. -/
def TReads (w : World) (v : Value) (ts : List Tok) : Prop :=
  ∃ ad cap, v = .slice ad ts.length cap ∧ ts.length ≤ maxLen ∧ (0 < ts.length → ∃ b o, ad = some ⟨b, o, none⟩ ∧ b < w.heap.size ∧ ∀ i (h : i < ts.length),
    w.cell? ⟨b, o + i * 3, none⟩ = some (.int .i64 ts[i].kind) ∧ w.cell? ⟨b, o + i * 3 + 1, none⟩ = some (.int .i64 ts[i].n) ∧ w.cell? ⟨b, o + i * 3 + 2, none⟩ = some (.string ⟨ts[i].text.toArray⟩))

theorem tcells_length (ts : List Tok) : (tcells ts).length = ts.length * 3 := by
  induction ts with
  | nil => rfl
  | cons t r ih => simp [tcells, Tok.cells] at ih ⊢; omega

theorem tcells_at : ∀ (ts : List Tok) (i : Nat) (h : i < ts.length), (tcells ts)[i * 3]? = some (.int .i64 ts[i].kind) ∧ (tcells ts)[i * 3 + 1]? = some (.int .i64 ts[i].n) ∧ (tcells ts)[i * 3 + 2]? = some (.string ⟨ts[i].text.toArray⟩)
  | [], i, h => by simp at h
  | t :: r, 0, _ => ⟨rfl, rfl, rfl⟩
  | t :: r, i + 1, h => by
    have ih := tcells_at r i (by simpa using h)
    have e : tcells (t :: r) = [.int .i64 t.kind, .int .i64 t.n, .string ⟨t.text.toArray⟩] ++ tcells r := rfl
    rw [e]
    refine ⟨?_, ?_, ?_⟩
    · rw [List.getElem?_append_right (by simp; omega)]; simpa [Nat.add_mul] using ih.1
    · rw [List.getElem?_append_right (by simp; omega), show (i + 1) * 3 + 1 - [Value.int .i64 t.kind, .int .i64 t.n, .string ⟨t.text.toArray⟩].length = i * 3 + 1 by simp; omega]; exact ih.2.1
    · rw [List.getElem?_append_right (by simp; omega), show (i + 1) * 3 + 2 - [Value.int .i64 t.kind, .int .i64 t.n, .string ⟨t.text.toArray⟩].length = i * 3 + 2 by simp; omega]; exact ih.2.2

theorem reads_of_owns {w : World} {base : Nat} {v : Value} {ts : List Tok} (h : w.ownsRow base 89 3 v ts.length (tcells ts)) : TReads w v ts := by
  rcases h.2 with ⟨rfl, hn⟩ | ⟨g, cap, cur, rfl, _, hg, hle, hm, _⟩
  · exact ⟨none, 0, by rw [hn], by rw [hn]; exact Nat.zero_le _, fun h0 => by omega⟩
  · refine ⟨_, cap, rfl, Nat.le_trans hle hm, fun _ => ⟨g, 0, rfl, (Array.getElem?_eq_some_iff.1 hg).1, fun i hi => ?_⟩⟩
    have ha := tcells_at ts i hi
    have hadd : ∀ j, (⟨g, 0, none⟩ : Addr).add j = ⟨g, 0 + j, none⟩ := fun j => by unfold Addr.add; split <;> simp_all
    have x0 := h.cells rfl _ _ ha.1
    have x1 := h.cells rfl _ _ ha.2.1
    have x2 := h.cells rfl _ _ ha.2.2
    rw [hadd] at x0 x1 x2
    exact ⟨x0, x1, x2⟩

theorem TReads.below {w w' : World} {B : Nat} {v : Value} {ts : List Tok} (h : TReads w v ts) (hb : Below B w w') (hB : w.heap.size ≤ B) : TReads w' v ts := by
  obtain ⟨ad, cap, rfl, hm, hc⟩ := h
  refine ⟨ad, cap, rfl, hm, fun h0 => ?_⟩
  obtain ⟨b, o, rfl, hlt, hcell⟩ := hc h0
  refine ⟨b, o, rfl, Nat.lt_of_lt_of_le hlt hb.size, fun i hi => ?_⟩
  have := hcell i hi
  rw [hb.cell (by show b < B; omega), hb.cell (by show b < B; omega), hb.cell (by show b < B; omega)]
  exact this

end Go.Proofs.YtagkmgdjkailkaaGreatDoor.Sc

namespace Go.Proofs.YtagkmgdjkailkaaGreatDoor.Sc
open Go.RowKit

/-- What is written of a token. -/
def prT (t : Tok) : List UInt8 := if t.kind = 2 then Lib.itoa t.n else t.text
def printL (ts : List Tok) : List UInt8 := Lib.join (ts.map prT) [32]
def prB (t : Tok) : ByteArray := ⟨(prT t).toArray⟩

def Fits (ts : List Tok) : Prop := ∀ i (h : i < ts.length), -9223372036854775808 ≤ ts[i].n ∧ ts[i].n ≤ 9223372036854775807

theorem info9 : (Tryz.prog.info? 9).map (fun i => (i.zero, i.size, i.bytes)) = some (some (.string ⟨#[]⟩), 1, 16) := by kernel_rfl

theorem made_at (w : World) (n i : Nat) (hi : i < n) : (w.alloc (.cells (madeCells #[.string ⟨#[]⟩] n) 9)).cell? ⟨w.heap.size, i, none⟩ = some (.string ⟨#[]⟩) := by
  have h := heap_alloc_new w (.cells (madeCells #[.string ⟨#[]⟩] n) 9)
  have h2 := toList_madeCells_one (.string ⟨#[]⟩) n
  unfold World.cell?
  simp only [h]
  rw [← Array.getElem?_toList, h2]
  simp [hi]
theorem made_fr (w : World) (n i : Nat) : (w.alloc (.cells (madeCells #[.string ⟨#[]⟩] n) 9)).frozen? ⟨w.heap.size, i, none⟩ = false := by
  have h := heap_alloc_new w (.cells (madeCells #[.string ⟨#[]⟩] n) 9)
  unfold World.frozen?
  simp only [h]
  simp

/-- The row of texts, of which the first k are written. -/
def Texts (wr : World) (g : Nat) (ts : List Tok) (k : Nat) : Prop :=
  (∀ i (h : i < ts.length), wr.cell? ⟨g, i, none⟩ = some (.string (if i < k then prB ts[i] else ⟨#[]⟩))) ∧ ∀ i, wr.frozen? ⟨g, i, none⟩ = false

theorem Texts.set {wr : World} {g k : Nat} {ts : List Tok} (h : Texts wr g ts k) (hk : k < ts.length) {x : ByteArray} (hx : x = prB ts[k]) : Texts (wr.setCell ⟨g, k, none⟩ (.string x)) g ts (k + 1) := by
  refine ⟨fun i hi => ?_, fun i => by rw [World.frozen?_setCell]; exact h.2 i⟩
  by_cases e : i = k
  · subst e
    rw [World.cell?_setCell_same _ _ _ (h.1 i hi), if_pos (by omega), hx]
  · rw [World.cell?_setCell_other _ _ _ _ (by intro e'; cases e'; exact e rfl), h.1 i hi]
    by_cases h2 : i < k
    · rw [if_pos h2, if_pos (by omega)]
    · rw [if_neg h2, if_neg (by omega)]

/-- Written twice at one place. -/
theorem Texts.set2 {wr : World} {g k : Nat} {ts : List Tok} (h : Texts wr g ts k) (hk : k < ts.length) {x y : ByteArray} (hx : x = prB ts[k]) : Texts ((wr.setCell ⟨g, k, none⟩ (.string y)).setCell ⟨g, k, none⟩ (.string x)) g ts (k + 1) := by
  have hc : (wr.setCell ⟨g, k, none⟩ (.string y)).cell? ⟨g, k, none⟩ = some (.string y) := World.cell?_setCell_same _ _ _ (h.1 k hk)
  refine ⟨fun i hi => ?_, fun i => by rw [World.frozen?_setCell, World.frozen?_setCell]; exact h.2 i⟩
  by_cases e : i = k
  · subst e
    rw [World.cell?_setCell_same _ _ _ hc, if_pos (by omega), hx]
  · rw [World.cell?_setCell_other _ _ _ _ (by intro e'; cases e'; exact e rfl), World.cell?_setCell_other _ _ _ _ (by intro e'; cases e'; exact e rfl), h.1 i hi]
    by_cases h2 : i < k
    · rw [if_pos h2, if_pos (by omega)]
    · rw [if_neg h2, if_neg (by omega)]

theorem Texts.below {w w' : World} {B g k : Nat} {ts : List Tok} (h : Texts w g ts k) (hb : Below B w w') (hg : g < B) : Texts w' g ts k :=
  ⟨fun i hi => by rw [hb.cell (by exact hg)]; exact h.1 i hi, fun i => by rw [hb.frozen (by exact hg)]; exact h.2 i⟩

theorem Texts.redo {wr w2 : World} {g k : Nat} {ts : List Tok} {x y : ByteArray} (h : Texts wr g ts k) (hk : k < ts.length) (hc : ∀ i, w2.cell? ⟨g, i, none⟩ = (wr.setCell ⟨g, k, none⟩ (.string y)).cell? ⟨g, i, none⟩) (hf : ∀ i, w2.frozen? ⟨g, i, none⟩ = false) (hx : x = prB ts[k]) : Texts (w2.setCell ⟨g, k, none⟩ (.string x)) g ts (k + 1) := by
  have hck : w2.cell? ⟨g, k, none⟩ = some (.string y) := by rw [hc]; exact World.cell?_setCell_same _ _ _ (h.1 k hk)
  refine ⟨fun i hi => ?_, fun i => by rw [World.frozen?_setCell]; exact hf i⟩
  by_cases e : i = k
  · subst e
    rw [World.cell?_setCell_same _ _ _ hck, if_pos (by omega), hx]
  · rw [World.cell?_setCell_other _ _ _ _ (by intro e'; cases e'; exact e rfl), hc, World.cell?_setCell_other _ _ _ _ (by intro e'; cases e'; exact e rfl), h.1 i hi]
    by_cases h2 : i < k
    · rw [if_pos h2, if_pos (by omega)]
    · rw [if_neg h2, if_neg (by omega)]

theorem itoa_any (n : Int) (h0 : -9223372036854775808 ≤ n) (h1 : n ≤ 9223372036854775807) (w : World) (hG : Glob w) :
    Calls Tryz.prog 6 #[.int .i64 n] w fun e w' => e = .returned (.string ⟨(Lib.itoa n).toArray⟩) ∧ Below w.heap.size w w' := by
  refine (Tryz.strconv_Itoa n h0 h1 w hG.tab).mono ?_
  rintro e w' ⟨rfl, k, os, rfl⟩
  exact ⟨rfl, Lib.below_grow _ _ (Nat.le_refl _) _ _⟩

end Go.Proofs.YtagkmgdjkailkaaGreatDoor.Sc

namespace Go.Proofs.YtagkmgdjkailkaaGreatDoor.Sc
open Go.RowKit

/-- What stands between line feeds. -/
def splitNL : List UInt8 → List (List UInt8)
  | [] => [[]]
  | c :: r => if c = 10 then [] :: splitNL r else match splitNL r with
    | [] => [[c]]
    | x :: y => (c :: x) :: y

theorem splitNL_ne : ∀ l, splitNL l ≠ []
  | [] => by simp [splitNL]
  | c :: r => by
    unfold splitNL
    split
    · simp
    · split <;> simp

theorem index10_hit (r : List UInt8) : Lib.indexByte ((10 : UInt8) :: r) 10 = 0 := by simp [Lib.indexByte]

theorem splitK_eq : ∀ (l : List UInt8), Lib.splitK [10] 0 (l.count 10) l = splitNL l
  | [] => rfl
  | c :: r => by
    have ih := splitK_eq r
    have hge := Lib.indexByte_ge r 10
    by_cases hc : c = 10
    · subst hc
      rw [List.count_cons_self]
      unfold Lib.splitK splitNL
      simp only [Lib.index_one, index10_hit]
      simp [ih]
    · have hcnt : (c :: r).count 10 = r.count 10 := by rw [List.count_cons]; simp [hc]
      have hcb : (c == 10) = false := by simpa using hc
      rw [hcnt]
      unfold splitNL
      rw [if_neg hc, ← ih]
      cases hk : r.count 10 with
      | zero => simp [Lib.splitK]
      | succ k =>
        have hmem : 0 < r.count 10 := by omega
        have hne : Lib.indexByte r 10 ≠ -1 := by
          intro h
          have := Lib.indexByte_none h
          obtain ⟨i, hi, he⟩ := List.getElem_of_mem (List.count_pos_iff.1 hmem)
          exact this i (by rw [List.getElem?_eq_getElem hi, he])
        have h0 : 0 ≤ Lib.indexByte r 10 := by omega
        have hcons : Lib.indexByte (c :: r) 10 = Lib.indexByte r 10 + 1 := by
          simp only [Lib.indexByte, hcb, Bool.false_eq_true, if_false]
          rw [if_neg (by simpa using hne)]
        unfold Lib.splitK
        simp only [Lib.index_one, hcons]
        have e1 : (Lib.indexByte r 10 + 1 == -1) = false := by
          rw [beq_eq_false_iff_ne]; omega
        have e2 : (Lib.indexByte r 10 == -1) = false := by
          rw [beq_eq_false_iff_ne]; exact hne
        have e3 : (Lib.indexByte r 10 + 1).toNat = (Lib.indexByte r 10).toNat + 1 := by omega
        simp only [e1, e2, e3, Bool.false_eq_true, if_false, Nat.add_zero, List.take_succ_cons, List.length_singleton, List.drop_succ_cons]

structure Ln where
  pos : Int
  toks : List Tok

/-- The lines of a source from line n on, or the error of the first that has one, at its number. -/
def linesR : Nat → List (List UInt8) → Except (Int × Int) (List Ln)
  | _, [] => .ok []
  | n, l :: r => if lineErr l = 0 then
      match linesR (n + 1) r with
      | .error e => .error e
      | .ok ls => .ok (if lineList l = [] then ls else ⟨n, lineList l⟩ :: ls)
    else .error (lineErr l, n)

def srcLines (bs : List UInt8) : Except (Int × Int) (List Ln) := if 1200 < bs.length then .error (4, 0) else linesR 1 (splitNL bs)
def srcErr (bs : List UInt8) : Int := match srcLines bs with
  | .error e => e.1
  | .ok _ => 0
def srcAt (bs : List UInt8) : Int := match srcLines bs with
  | .error e => e.2
  | .ok _ => 0
def srcList (bs : List UInt8) : List Ln := match srcLines bs with
  | .error _ => []
  | .ok ls => ls

/-- The slice v reads as the bytes bs. -/
def BReads (w : World) (v : Value) (bs : List UInt8) : Prop :=
  ∃ ad cap, v = .slice ad bs.length cap ∧ bs.length ≤ maxLen ∧ (0 < bs.length → ∃ b o, ad = some ⟨b, o, none⟩ ∧ b < w.heap.size ∧ ∀ i (h : i < bs.length), w.cell? ⟨b, o + i, none⟩ = some (.int .u8 (bs[i].toNat : Int)))

theorem conv_bytes {w : World} {v : Value} {bs : List UInt8} (h : BReads w v bs) : (convert 24 9 v).run Tryz.prog w = .ok (.string ⟨bs.toArray⟩) w := by
  obtain ⟨ad, cap, rfl, _, hc⟩ := h
  by_cases h0 : 0 < bs.length
  · obtain ⟨b, o, rfl, _, hcell⟩ := hc h0
    have hrun := run_convert_bytes_arg (P := Tryz.prog) w 24 5 Tryz.underlying24 Tryz.underlying5 b o bs.length cap (bs.map fun c => (c.toNat : Int)) (by simp) (fun i hi => by rw [hcell i hi]; simp [List.getD, hi]) 9 Tryz.underlying9
    have e : strOfNums (bs.map fun c => (c.toNat : Int)) = ⟨bs.toArray⟩ := by
      have hm : (bs.map fun c => (c.toNat : Int)).map (fun n : Int => UInt8.ofNat n.toNat) = bs := by
        rw [List.map_map]
        have : (bs.map ((fun n : Int => UInt8.ofNat n.toNat) ∘ fun c => (c.toNat : Int))) = bs.map id := List.map_congr_left (fun c _ => by simp)
        rw [this, List.map_id]
      unfold strOfNums
      rw [hm]
    rw [e] at hrun
    exact hrun
  · have hb : bs = [] := List.eq_nil_of_length_eq_zero (by omega)
    subst hb
    cases ad with
    | none => exact run_convert_bytes_nil (P := Tryz.prog) w 24 5 Tryz.underlying24 Tryz.underlying5 0 cap 9 Tryz.underlying9
    | some a =>
      show (convert 24 9 (.slice (some a) 0 cap)).run Tryz.prog w = _
      rw [run_convert_bytes_string w 24 9 5 _ 0 cap Tryz.underlying24 Tryz.underlying5 Tryz.underlying9]
      have hl : (loadCells a 0).run Tryz.prog w = .ok (([] : List Int).map (Value.int .u8)).toArray w := by
        have := run_loadCells_list (P := Tryz.prog) w a ([] : List Value) (fun j v hj => by simp at hj)
        simpa using this
      rw [run_bytesToString w a 0 cap [] hl]
      rfl

end Go.Proofs.YtagkmgdjkailkaaGreatDoor.Sc

namespace Go.Proofs.YtagkmgdjkailkaaGreatDoor.Sc
open Go.RowKit

/-- A list of lines that the call has made: the lines, each with its slice of tokens. -/
def lcells (ps : List (Ln × Value)) : List Value := ps.flatMap fun p => [.int .i64 p.1.pos, p.2]

structure LOwn (w : World) (base : Nat) (v : Value) (ps : List (Ln × Value)) : Prop where
  row : w.ownsRow base 65 2 v ps.length (lcells ps)
  toks : ∀ p, p ∈ ps → w.ownsRow base 89 3 p.2 p.1.toks.length (tcells p.1.toks)

theorem LOwn.nil (w : World) (base : Nat) : LOwn w base (.slice none 0 0) [] := ⟨World.ownsRow_nil _ _ _ _, fun p h => by simp at h⟩

theorem owns_below {w w' : World} {base n B : Nat} {e : TypeId} {size : Nat} {v : Value} {xs : List Value} (h : w.ownsRow base e size v n xs) (hb : Below B w w') (hB : w.heap.size ≤ B) : w'.ownsRow base e size v n xs := by
  refine ⟨h.1, ?_⟩
  rcases h.2 with h | ⟨g, cap, cur, rfl, hg, hgg, rest⟩
  · exact Or.inl h
  · refine Or.inr ⟨g, cap, cur, rfl, hg, ?_, rest⟩
    have := (Array.getElem?_eq_some_iff.1 hgg).1
    rw [hb.block g (by omega)]
    exact hgg

theorem LOwn.below {w w' : World} {base B : Nat} {v : Value} {ps : List (Ln × Value)} (h : LOwn w base v ps) (hb : Below B w w') (hB : w.heap.size ≤ B) : LOwn w' base v ps :=
  ⟨owns_below h.row hb hB, fun p hp => owns_below (h.toks p hp) hb hB⟩

/-- A row of tokens isn't the row of lines. -/
theorem tok_kept {w w' : World} {b b' n n' : Nat} {tv v : Value} {xs ys : List Value} (h : w.ownsRow b 89 3 tv n xs) (hv : w.ownsRow b' 65 2 v n' ys) (hg : w.grownBy w' v.ownBlock) : w'.ownsRow b 89 3 tv n xs := by
  refine h.kept hg ?_
  rcases h.2 with ⟨rfl, _⟩ | ⟨g, cap, cur, rfl, _, hgg, _⟩
  · exact Or.inl rfl
  · refine Or.inr ?_
    rcases hv.2 with ⟨rfl, _⟩ | ⟨g', cap', cur', rfl, _, hgg', _⟩
    · simp [Value.ownBlock]
    · intro e
      simp [Value.ownBlock] at e
      subst e
      rw [hgg] at hgg'
      simp at hgg'

theorem lcells_app (ps : List (Ln × Value)) (p : Ln × Value) : lcells (ps ++ [p]) = lcells ps ++ [.int .i64 p.1.pos, p.2] := by simp [lcells]

theorem info64 : (Tryz.prog.info? 65).map (fun i => (i.zero, i.size, i.bytes)) = some (some (.agg #[.int .i64 0, .slice none 0 0]), 2, 32) := by kernel_rfl

theorem linesR_err {n : Nat} {l : List UInt8} {r : List (List UInt8)} (h : lineErr l ≠ 0) : linesR n (l :: r) = .error (lineErr l, n) := by
  rw [linesR, if_neg h]

def addLn (done : List Ln) : Except (Int × Int) (List Ln) → Except (Int × Int) (List Ln)
  | .error e => .error e
  | .ok ls => .ok (done ++ ls)

theorem linesR_none {n : Nat} {l : List UInt8} {r : List (List UInt8)} {done : List Ln} {X : Except (Int × Int) (List Ln)} (hX : X = addLn done (linesR n (l :: r))) (h : lineErr l = 0) (he : lineList l = []) : X = addLn done (linesR (n + 1) r) := by
  rw [hX, linesR, if_pos h, he]
  cases linesR (n + 1) r <;> simp [addLn]
theorem linesR_some {n : Nat} {l : List UInt8} {r : List (List UInt8)} {done : List Ln} {X : Except (Int × Int) (List Ln)} (hX : X = addLn done (linesR n (l :: r))) (h : lineErr l = 0) (he : lineList l ≠ []) : X = addLn (done ++ [⟨n, lineList l⟩]) (linesR (n + 1) r) := by
  rw [hX, linesR, if_pos h]
  cases linesR (n + 1) r <;> simp [addLn, he]

/-- What Lines answers. -/
def LinAns (base : Nat) (w' : World) (bs : List UInt8) (e : Ending) : Prop :=
  ∃ v ps, e = .returned (.tuple #[v, .agg #[.int .i64 (srcErr bs), .int .i64 (srcAt bs)]]) ∧ ps.map (·.1) = srcList bs ∧ LOwn w' base v ps

theorem lines_much (v : Value) (bs : List UInt8) (w : World) (hv : BReads w v bs) (h : 1200 < bs.length) :
    Calls Tryz.prog 13 #[v] w fun e w' => LinAns w.heap.size w' bs e ∧ Below w.heap.size w w' := by
  obtain ⟨ad, cap, rfl, hm, _⟩ := hv
  have HF : Hid (srcErr bs = 4 ∧ srcAt bs = 0 ∧ srcList bs = []) := by
    unfold Hid srcErr srcAt srcList srcLines
    rw [if_pos h]
    exact ⟨rfl, rfl, rfl⟩
  have h' : (1200 : Int) < bs.length := by omega
  unfold maxLen at hm
  go_enter Tryz.func13, Tryz.ntmps13
  go_wp2
  refine bodyPost_ret (v := .tuple #[.slice none 0 0, .agg #[.int .i64 4, .int .i64 0]]) (by simp [results, Tryz.results13, go_sem]) rfl ⟨⟨_, [], by rw [HF.out.1, HF.out.2.1], by rw [HF.out.2.2]; rfl, LOwn.nil _ _⟩, (Below.refl _ _).alloc (Nat.le_refl _) _⟩

end Go.Proofs.YtagkmgdjkailkaaGreatDoor.Sc
