/- What a line's tokens are, as functions of lists of bytes; no program in this text but the form of cells. The contract of isa.Put: a number of at most six bytes. -/
import Derived.Test.YtgjmbjahgcndnaaGreatDoorPut1
import Derived.Lib.ParseIntB
import Derived.Lib.Strings
import Derived.Lib.Split
import Derived.Test.YtgjmbjahgcndnaaGreatDoorPut2
import Derived.Laws.CopyOwn
import Derived.Deep.OwnRows
namespace Go.Proofs.YtgjmbjahgcndnaaGreatDoor.Sc
open Go.RowKit

structure Tok where
  kind : Int
  n : Int
  text : List UInt8

def Tok.cells (t : Tok) : List Value := [.int .i64 t.kind, .int .i64 t.n, .string ⟨t.text.toArray⟩]
def tcells (ts : List Tok) : List Value := ts.flatMap Tok.cells

def pb (p : Int → Bool) (c : UInt8) : Bool := p (c.toNat : Int)

def signB (c : Int) : Bool := decide (c = 58 ∨ c = 44 ∨ c = 35 ∨ c = 64 ∨ c = 40 ∨ c = 41 ∨ c = 43 ∨ c = 45 ∨ c = 42 ∨ c = 38 ∨ c = 124 ∨ c = 126 ∨ c = 61)

/-- How many bytes the sign has. -/
def signN (l : List UInt8) : Nat :=
  if Lib.hasPrefix l [60, 60] = true ∨ Lib.hasPrefix l [62, 62] = true then 2
  else match l with
    | [] => 0
    | c :: _ => if pb signB c = true then 1 else 0

def digV (base c : Nat) : Option Nat :=
  if 48 ≤ c ∧ c ≤ 57 then some (c - 48)
  else if base = 16 ∧ 97 ≤ c ∧ c ≤ 102 then some (c - 87)
  else if base = 16 ∧ 65 ≤ c ∧ c ≤ 70 then some (c - 55)
  else none

def parseN (base : Nat) : Nat → List UInt8 → Option Nat
  | n, [] => some n
  | n, c :: r => match digV base c.toNat with
    | none => none
    | some d => if n * base + d ≤ 4294967295 then parseN base (n * base + d) r else none

def parseU (base : Nat) (l : List UInt8) : Option Nat := if l = [] then none else parseN base 0 l

def numL (l : List UInt8) : Option Nat := if Lib.hasPrefix l [48, 120] = true then parseU 16 (l.drop 2) else parseU 10 l

inductive Nxt where
  | fin
  | bad
  | tok (t : Tok) (r : List UInt8)

/-- The token at the beginning, where no blank is. -/
def nextT (l : List UInt8) : Nxt :=
  match l with
  | [] => .fin
  | c :: _ =>
    if pb letterB c = true then .tok ⟨1, 0, l.takeWhile (pb wordB)⟩ (l.dropWhile (pb wordB))
    else if pb digitB c = true then
      match numL (l.takeWhile (pb numB)) with
      | none => .bad
      | some n => .tok ⟨2, n, []⟩ (l.dropWhile (pb numB))
    else if signN l = 0 then .bad
    else .tok ⟨3, 0, l.take (signN l)⟩ (l.drop (signN l))

def toksF : Nat → List UInt8 → Option (List Tok)
  | 0, _ => none
  | f + 1, l => match nextT (l.dropWhile (pb blankB)) with
    | .fin => some []
    | .bad => none
    | .tok t r => (toksF f r).map (t :: ·)

def toks (l : List UInt8) : Option (List Tok) := toksF (l.length + 1) l

theorem dropWhile_len {p : UInt8 → Bool} : ∀ l : List UInt8, (l.dropWhile p).length ≤ l.length
  | [] => by simp
  | c :: r => by
    have := dropWhile_len (p := p) r
    simp only [List.dropWhile_cons]
    split <;> simp <;> omega

theorem nextT_len {l r : List UInt8} {t : Tok} (h : nextT l = .tok t r) : r.length < l.length := by
  unfold nextT at h
  split at h
  · cases h
  · rename_i c tl
    split at h
    · rename_i hc
      injection h with h1 h2
      subst h2
      have hw : pb wordB c = true := by simp [pb, wordB] at hc ⊢; simp [hc]
      rw [List.dropWhile_cons, if_pos hw]
      have := dropWhile_len (p := pb wordB) tl
      simp; omega
    · split at h
      · rename_i hc
        split at h
        · cases h
        · injection h with h1 h2
          subst h2
          have hw : pb numB c = true := by simp [pb, numB] at hc ⊢; simp [hc]
          rw [List.dropWhile_cons, if_pos hw]
          have := dropWhile_len (p := pb numB) tl
          simp; omega
      · split at h
        · cases h
        · injection h with h1 h2
          subst h2
          simp; omega

theorem toksF_more : ∀ (f g : Nat) (l : List UInt8), l.length < f → l.length < g → toksF f l = toksF g l
  | 0, _, _, h, _ => by omega
  | _, 0, _, _, h => by omega
  | f + 1, g + 1, l, hf, hg => by
    unfold toksF
    have hd := dropWhile_len (p := pb blankB) l
    split
    · rfl
    · rfl
    · rename_i t r hn
      have := nextT_len hn
      rw [toksF_more f g r (by omega) (by omega)]

theorem toks_eq (l : List UInt8) : toks l = match nextT (l.dropWhile (pb blankB)) with
    | .fin => some []
    | .bad => none
    | .tok t r => (toks r).map (t :: ·) := by
  unfold toks
  rw [toksF]
  have hd := dropWhile_len (p := pb blankB) l
  split
  · rfl
  · rfl
  · rename_i t r hn
    have := nextT_len hn
    rw [toksF_more l.length (r.length + 1) r (by omega) (by omega)]

theorem toks_fin {l : List UInt8} (h : nextT (l.dropWhile (pb blankB)) = .fin) : toks l = some [] := by rw [toks_eq, h]
theorem toks_bad {l : List UInt8} (h : nextT (l.dropWhile (pb blankB)) = .bad) : toks l = none := by rw [toks_eq, h]
theorem toks_tok {l r : List UInt8} {t : Tok} (h : nextT (l.dropWhile (pb blankB)) = .tok t r) : toks l = (toks r).map (t :: ·) := by rw [toks_eq, h]

/-- What stands ahead of a remark. -/
def code (l : List UInt8) : List UInt8 := l.takeWhile (· != 59)

/-- What a line's tokens are. -/
def lineToks (l : List UInt8) : Option (List Tok) := if 80 < l.length then none else toks (code l)
def lineErr (l : List UInt8) : Int := if 80 < l.length then 4 else if (toks (code l)).isSome then 0 else 2
def lineList (l : List UInt8) : List Tok := (lineToks l).getD []

end Go.Proofs.YtgjmbjahgcndnaaGreatDoor.Sc

namespace Go.Proofs.YtgjmbjahgcndnaaGreatDoor.Isa
open Go.RowKit

theorem info5 : (Tryz.prog.info? 5).map (fun i => (i.zero, i.size, i.bytes)) = some (some (.int .u8 0), 1, 1) := by kernel_rfl
theorem size5 : (Tryz.prog.info? 5).map (·.size) = some 1 := by kernel_rfl

/-- The byte at place i behind a Put. -/
def putAt (bs : Nat → Int) (a size n : Int) (i : Nat) : Int :=
  if 0 ≤ (i : Int) - a ∧ (i : Int) - a < size then n / 2 ^ (8 * (size - 1 - ((i : Int) - a))).toNat % 256 else bs i

def rowOf (bs : Nat → Int) (len : Nat) : List Value := (List.range len).map fun i => .int .u8 (bs i)

theorem put_step {wr : World} {g len p : Nat} {bs : Nat → Int} {a size n : Int} (hlt : p < len)
    (hc : ∀ i, i < len → wr.cell? ⟨g, i, none⟩ = some (.int .u8 (if i < p then putAt bs a size n i else bs i))) (hin : 0 ≤ (p : Int) - a ∧ (p : Int) - a < size) :
    ∀ i, i < len → (wr.setCell ⟨g, p, none⟩ (.int .u8 (n / 2 ^ (8 * (size - 1 - ((p : Int) - a))).toNat % 256))).cell? ⟨g, i, none⟩ = some (.int .u8 (if i < p + 1 then putAt bs a size n i else bs i)) := by
  intro i hi
  by_cases h : i = p
  · subst h
    rw [World.cell?_setCell_same _ _ _ (hc i hlt), if_pos (by omega)]
    unfold putAt
    rw [if_pos hin]
  · rw [World.cell?_setCell_other _ _ _ _ (by intro e; cases e; exact h rfl), hc i hi]
    by_cases h2 : i < p
    · rw [if_pos h2, if_pos (by omega)]
    · rw [if_neg h2, if_neg (by omega)]

theorem put_skip {wr : World} {g len p : Nat} {bs : Nat → Int} {a size n : Int}
    (hc : ∀ i, i < len → wr.cell? ⟨g, i, none⟩ = some (.int .u8 (if i < p then putAt bs a size n i else bs i))) (hin : ¬ (0 ≤ (p : Int) - a ∧ (p : Int) - a < size)) :
    ∀ i, i < len → wr.cell? ⟨g, i, none⟩ = some (.int .u8 (if i < p + 1 then putAt bs a size n i else bs i)) := by
  intro i hi
  rw [hc i hi]
  by_cases h : i = p
  · subst h
    rw [if_neg (by omega), if_pos (by omega)]
    unfold putAt
    rw [if_neg hin]
  · by_cases h2 : i < p
    · rw [if_pos h2, if_pos (by omega)]
    · rw [if_neg h2, if_neg (by omega)]

set_option maxHeartbeats 1000000 in
theorem put_any (ad : Option Addr) (len cap : Nat) (bs : Nat → Int) (a size n : Int) (w : World) (hlen : len ≤ 281474976710656)
    (hrow : 0 < len → ∃ b off, ad = some ⟨b, off, none⟩ ∧ ∀ i, i < len → w.cell? ⟨b, off + i, none⟩ = some (.int .u8 (bs i)))
    (hs0 : 0 ≤ size) (hs1 : size ≤ 6) (ha0 : -1000000000 ≤ a) (ha1 : a ≤ 9223372036854775000) :
    Calls Tryz.prog 64 #[.slice ad len cap, .int .i64 a, .int .i64 size, .int .i64 n] w fun e w' => e = .returned (.slice (some ⟨w.heap.size, 0, none⟩) len len) ∧ Below w.heap.size w w' ∧ w.heap.size < w'.heap.size ∧ ∀ i, i < len → w'.cell? ⟨w.heap.size, i, none⟩ = some (.int .u8 (putAt bs a size n i)) := by
  have hmk := run_make_row' (P := Tryz.prog) 31 5 (.int .u8 0) 1 Tryz.underlying31 info5 rfl .i64 .i64 len (by omega) (by omega)
  have hsrc : 0 < (rowOf bs len).length → (some (⟨w.heap.size, 0, none⟩ : Addr)) = some ⟨w.heap.size, 0, none⟩ ∧ ∃ x, ad = some x ∧ ∀ j v, (rowOf bs len)[j]? = some v → (w.alloc (.cells (madeCells #[.int .u8 0] len) 5)).cell? (x.add j) = some v := by
    intro h0
    refine ⟨rfl, ?_⟩
    obtain ⟨b, off, rfl, hc⟩ := hrow (by simpa [rowOf] using h0)
    refine ⟨_, rfl, fun j v hv => ?_⟩
    by_cases hj : j < len
    · have := hc j hj
      have hb : b < w.heap.size := World.block_lt_of_cell? w _ this
      have hadd : (⟨b, off, none⟩ : Addr).add j = ⟨b, off + j, none⟩ := by simp [Addr.add]
      rw [hadd, World.cell?_alloc_lt _ _ _ (by simpa using hb), this]
      simpa [rowOf, hj] using hv
    · simp [rowOf, hj] at hv
  have hone : ∀ v ∈ rowOf bs len, v.oneCell' = true := by
    intro v hv
    simp [rowOf] at hv
    obtain ⟨i, _, rfl⟩ := hv
    rfl
  have hrl : (rowOf bs len).length = len := by simp [rowOf]
  have H1 : (w.alloc (.cells (madeCells #[.int .u8 0] len) 5)).heap[w.heap.size]? = some (.cells (madeCells #[.int .u8 0] len).toList.toArray 5 (0, 0)) := by
    rw [heap_alloc_new]
  have H2 : (rowOf bs len).length = Nat.min len len := by rw [hrl]; simp
  have H3 : 0 + (rowOf bs len).length ≤ (madeCells #[.int .u8 0] len).toList.length := by rw [hrl]; simp [size_madeCells]
  have H4 : Below w.heap.size w (w.alloc (.cells (madeCells #[.int .u8 0] len) 5)) := (Below.refl _ _).alloc (Nat.le_refl _) _
  have hspl : splice (madeCells #[.int .u8 0] len).toList 0 (rowOf bs len) = rowOf bs len := by
    simp [splice, hrl, size_madeCells]
  have HSPL : Hid (splice (madeCells #[.int .u8 0] len).toList 0 (rowOf bs len) = rowOf bs len) := hspl
  clear hspl hrl hrow
  go_enter Tryz.func64, Tryz.ntmps64
  go_wp2_with (refine wpList_copy_splice rfl _ _ 31 31 rfl 5 Tryz.underlying31 size5 _ _ len len len cap rfl rfl w.heap.size 0 (madeCells #[.int .u8 0] len).toList 5 H1 (rowOf bs len) H2 hsrc H3 hone w.heap.size w H4 (Nat.le_refl _) ?_; intro w2 HR hB2; clear H1 H2 H3 H4 hsrc hone hmk)
  have HR' : w2.heap[w.heap.size]? = some (.cells (rowOf bs len).toArray 5 (0, 0)) := by rw [← HSPL.out]; exact HR.out
  have hz2 : w.heap.size < w2.heap.size := by
    by_cases h : w.heap.size < w2.heap.size
    · exact h
    · rw [Array.getElem?_eq_none (by omega)] at HR'; simp at HR'
  have hcell2 : ∀ i, i < len → w2.cell? ⟨w.heap.size, i, none⟩ = some (.int .u8 (bs i)) := by
    intro i hi
    simp [World.cell?, HR', rowOf, hi]
  have hfro2 : ∀ i, w2.frozen? ⟨w.heap.size, i, none⟩ = false := by
    intro i
    simp [World.frozen?, HR']
  clear HR HR' HSPL
  go_loopw [20] (fun i wr => ∃ p : Nat, p ≤ len ∧ i = .int .i64 p ∧ Below w.heap.size w wr ∧ w.heap.size < wr.heap.size ∧ (∀ i, i < len → wr.cell? ⟨w.heap.size, i, none⟩ = some (.int .u8 (if i < p then putAt bs a size n i else bs i))) ∧ (∀ i, wr.frozen? ⟨w.heap.size, i, none⟩ = false)) (fun i _ => len - (intOf i).toNat)
  case atStart => exact ⟨0, Nat.zero_le _, rfl, hB2, hz2, by simpa using hcell2, hfro2⟩
  case round =>
    obtain ⟨p, hp, rfl, hB, hz, hcell, hfro⟩ := hrel
    clear hcell2 hfro2 hB2 hz2
    by_cases hlt : p < len
    · have hp1 : (p : Int) < (len : Int) := by omega
      have hcp := hcell p hlt
      have hfp := hfro p
      have HC : Hid (∀ i, i < len → wr.cell? ⟨w.heap.size, i, none⟩ = some (.int .u8 (if i < p then putAt bs a size n i else bs i))) := hcell
      have HF : Hid (∀ i, wr.frozen? ⟨w.heap.size, i, none⟩ = false) := hfro
      rw [if_neg (by omega)] at hcp
      clear hcell hfro
      by_cases hin : 0 ≤ (p : Int) - a ∧ (p : Int) - a < size
      · obtain ⟨hi0, hi1⟩ := hin
        go_wp2
        exact ⟨⟨p + 1, by omega, by go_num, hB.setCell (Nat.le_refl _) _, by simpa using hz, put_step hlt HC.out ⟨hi0, hi1⟩, fun i => by rw [World.frozen?_setCell]; exact HF.out i⟩, by simp [intOf]; omega⟩
      · by_cases hi0 : 0 ≤ (p : Int) - a
        · have hi1 : ¬ (p : Int) - a < size := by omega
          go_wp2
          exact ⟨⟨p + 1, by omega, by go_num, hB, hz, put_skip HC.out (by omega), HF.out⟩, by simp [intOf]; omega⟩
        · go_wp2
          exact ⟨⟨p + 1, by omega, by go_num, hB, hz, put_skip HC.out (by omega), HF.out⟩, by simp [intOf]; omega⟩
    · have hp1 : ¬ (p : Int) < (len : Int) := by omega
      have HC : Hid (∀ i, i < len → wr.cell? ⟨w.heap.size, i, none⟩ = some (.int .u8 (putAt bs a size n i))) := by
        intro i hi
        have := hcell i hi
        rwa [if_pos (by omega)] at this
      clear hcell hfro
      go_wp2
      go_ret
      exact ⟨rfl, hB, hz, HC.out⟩

end Go.Proofs.YtgjmbjahgcndnaaGreatDoor.Isa
