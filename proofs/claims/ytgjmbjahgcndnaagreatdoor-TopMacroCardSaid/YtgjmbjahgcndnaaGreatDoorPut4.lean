import Derived.Lib.ParseIntB
import Derived.Lib.Strings
import Derived.Lib.Split
import Derived.Test.YtgjmbjahgcndnaaGreatDoorPut2
import Derived.Laws.CopyOwn
import Derived.Deep.OwnRows
set_option maxHeartbeats 1000000
namespace Go.Proofs.YtgjmbjahgcndnaaGreatDoor.Sc
open Go.RowKit
structure Tok where
 kind : Int
 n : Int
 text : List UInt8
def Tok.cells (t : Tok) : List Value := [.int .i64 t.kind, .int .i64 t.n, .string ⟨t.text.toArray⟩]
def tcells (ts : List Tok) : List Value := ts.flatMap Tok.cells
def pb (p : Int -> Bool) (c : UInt8) : Bool := p (c.toNat : Int)
def qKh (c : Int) : Bool := decide (c = 58 \/ c = 44 \/ c = 35 \/ c = 64 \/ c = 40 \/ c = 41 \/ c = 43 \/ c = 45 \/ c = 42 \/ c = 38 \/ c = 124 \/ c = 126 \/ c = 61)
def qBh (l : List UInt8) : Nat :=
 if Lib.hasPrefix l [60, 60] = true \/ Lib.hasPrefix l [62, 62] = true then 2
 else match l with
  | [] => 0
  | c :: _ => if pb qKh c = true then 1 else 0
def digV (base c : Nat) : Option Nat :=
 if 48 <= c /\ c <= 57 then some (c - 48)
 else if base = 16 /\ 97 <= c /\ c <= 102 then some (c - 87)
 else if base = 16 /\ 65 <= c /\ c <= 70 then some (c - 55)
 else none
def qBK (base : Nat) : Nat -> List UInt8 -> Option Nat
 | n, [] => some n
 | n, c :: r => match digV base c.toNat with
   | none => none
   | some d => if n * base + d <= 4294967295 then qBK base (n * base + d) r else none
def qBF (base : Nat) (l : List UInt8) : Option Nat := if l = [] then none else qBK base 0 l
def numL (l : List UInt8) : Option Nat := if Lib.hasPrefix l [48, 120] = true then qBF 16 (l.drop 2) else qBF 10 l
inductive Nxt where
 | fin
 | bad
 | tok (t : Tok) (r : List UInt8)
def qCB (l : List UInt8) : Nxt :=
 match l with
 | [] => .fin
 | c :: _ =>
   if pb qy c = true then .tok ⟨1, 0, l.takeWhile (pb qCP)⟩ (l.dropWhile (pb qCP))
   else if pb qAK c = true then
    match numL (l.takeWhile (pb numB)) with
    | none => .bad
    | some n => .tok ⟨2, n, []⟩ (l.dropWhile (pb numB))
   else if qBh l = 0 then .bad
   else .tok ⟨3, 0, l.take (qBh l)⟩ (l.drop (qBh l))
def qI9 : Nat -> List UInt8 -> Option (List Tok)
 | 0, _ => none
 | f + 1, l => match qCB (l.dropWhile (pb qAP)) with
   | .fin => some []
   | .bad => none
   | .tok t r => (qI9 f r).map (t :: ·)
def toks (l : List UInt8) : Option (List Tok) := qI9 (l.length + 1) l
theorem qAA {p : UInt8 -> Bool} : ∀ l : List UInt8, (l.dropWhile p).length <= l.length
 | [] => by simp
 | c :: r => by
   have := qAA (p := p) r
   simp only [List.dropWhile_cons]
   split <;> simp <;> omega
theorem qD4 {l r : List UInt8} {t : Tok} (h : qCB l = .tok t r) : r.length < l.length := by
 unfold qCB at h
 split at h
 ·cases h
 ·rename_i c tl
  split at h
  ·rename_i hc
   injection h with h1 h2
   subst h2
   have hw : pb qCP c = true := by simp [pb, qCP] at hc ⊢; simp [hc]
   rw [List.dropWhile_cons, if_pos hw]
   have := qAA (p := pb qCP) tl
   simp; omega
  ·split at h
   ·rename_i hc
    split at h
    ·cases h
    ·injection h with h1 h2
     subst h2
     have hw : pb numB c = true := by simp [pb, numB] at hc ⊢; simp [hc]
     rw [List.dropWhile_cons, if_pos hw]
     have := qAA (p := pb numB) tl
     simp; omega
   ·split at h
    ·cases h
    ·injection h with h1 h2
     subst h2
     simp; omega
theorem qEX : ∀ (f g : Nat) (l : List UInt8), l.length < f -> l.length < g -> qI9 f l = qI9 g l
 | 0, _, _, h, _ => by omega
 | _, 0, _, _, h => by omega
 | f + 1, g + 1, l, hf, hg => by
   unfold qI9
   have hd := qAA (p := pb qAP) l
   split
   ·rfl
   ·rfl
   ·rename_i t r hn
    have := qD4 hn
    rw [qEX f g r (by omega) (by omega)]
theorem qHJ (l : List UInt8) : toks l = match qCB (l.dropWhile (pb qAP)) with
  | .fin => some []
  | .bad => none
  | .tok t r => (toks r).map (t :: ·) := by
 unfold toks
 rw [qI9]
 have hd := qAA (p := pb qAP) l
 split
 ·rfl
 ·rfl
 ·rename_i t r hn
  have := qD4 hn
  rw [qEX l.length (r.length + 1) r (by omega) (by omega)]
theorem toks_fin {l : List UInt8} (h : qCB (l.dropWhile (pb qAP)) = .fin) : toks l = some [] := by rw [qHJ, h]
theorem toks_bad {l : List UInt8} (h : qCB (l.dropWhile (pb qAP)) = .bad) : toks l = none := by rw [qHJ, h]
theorem toks_tok {l r : List UInt8} {t : Tok} (h : qCB (l.dropWhile (pb qAP)) = .tok t r) : toks l = (toks r).map (t :: ·) := by rw [qHJ, h]
def code (l : List UInt8) : List UInt8 := l.takeWhile (· != 59)
def qDj (l : List UInt8) : Option (List Tok) := if 80 < l.length then none else toks (code l)
def qAM (l : List UInt8) : Int := if 80 < l.length then 4 else if (toks (code l)).isSome then 0 else 2
def qj (l : List UInt8) : List Tok := (qDj l).getD []
end Go.Proofs.YtgjmbjahgcndnaaGreatDoor.Sc
namespace Go.Proofs.YtgjmbjahgcndnaaGreatDoor.Isa
open Go.RowKit
theorem info5 : (Tryz.prog.info? 5).map (fun i => (i.zero, i.size, i.bytes)) = some (some (.int .u8 0), 1, 1) := by kernel_rfl
theorem size5 : (Tryz.prog.info? 5).map (·.size) = some 1 := by kernel_rfl
def qAe (bs : Nat -> Int) (a size n : Int) (i : Nat) : Int :=
 if 0 <= (i : Int) - a /\ (i : Int) - a < size then n / 2 ^ (8 * (size - 1 - ((i : Int) - a))).toNat % 256 else bs i
def qAW (bs : Nat -> Int) (len : Nat) : List Value := (List.range len).map fun i => .int .u8 (bs i)
theorem qFN {wr : World} {g len p : Nat} {bs : Nat -> Int} {a size n : Int} (hlt : p < len)
  (hc : ∀ i, i < len -> wr.cell? ⟨g, i, none⟩ = some (.int .u8 (if i < p then qAe bs a size n i else bs i))) (hin : 0 <= (p : Int) - a /\ (p : Int) - a < size) :
  ∀ i, i < len -> (wr.setCell ⟨g, p, none⟩ (.int .u8 (n / 2 ^ (8 * (size - 1 - ((p : Int) - a))).toNat % 256))).cell? ⟨g, i, none⟩ = some (.int .u8 (if i < p + 1 then qAe bs a size n i else bs i)) := by
 intro i hi
 by_cases h : i = p
 ·subst h
  rw [World.cell?_setCell_same _ _ _ (hc i hlt), if_pos (by omega)]
  unfold qAe
  rw [if_pos hin]
 ·rw [World.cell?_setCell_other _ _ _ _ (by intro e; cases e; exact h rfl), hc i hi]
  by_cases h2 : i < p
  ·rw [if_pos h2, if_pos (by omega)]
  ·rw [if_neg h2, if_neg (by omega)]
theorem qCw {wr : World} {g len p : Nat} {bs : Nat -> Int} {a size n : Int}
  (hc : ∀ i, i < len -> wr.cell? ⟨g, i, none⟩ = some (.int .u8 (if i < p then qAe bs a size n i else bs i))) (hin : ¬ (0 <= (p : Int) - a /\ (p : Int) - a < size)) :
  ∀ i, i < len -> wr.cell? ⟨g, i, none⟩ = some (.int .u8 (if i < p + 1 then qAe bs a size n i else bs i)) := by
 intro i hi
 rw [hc i hi]
 by_cases h : i = p
 ·subst h
  rw [if_neg (by omega), if_pos (by omega)]
  unfold qAe
  rw [if_neg hin]
 ·by_cases h2 : i < p
  ·rw [if_pos h2, if_pos (by omega)]
  ·rw [if_neg h2, if_neg (by omega)]
theorem qGe (ad : Option Addr) (len cap : Nat) (bs : Nat -> Int) (a size n : Int) (w : World) (hlen : len <= 281474976710656)
  (hrow : 0 < len -> ∃ b off, ad = some ⟨b, off, none⟩ /\ ∀ i, i < len -> w.cell? ⟨b, off + i, none⟩ = some (.int .u8 (bs i)))
  (hs0 : 0 <= size) (hs1 : size <= 6) (ha0 : -1000000000 <= a) (ha1 : a <= 9223372036854775000) :
  Calls Tryz.prog 64 #[.slice ad len cap, .int .i64 a, .int .i64 size, .int .i64 n] w fun e w' => e = .returned (.slice (some ⟨w.heap.size, 0, none⟩) len len) /\ Below w.heap.size w w' /\ w.heap.size < w'.heap.size /\ ∀ i, i < len -> w'.cell? ⟨w.heap.size, i, none⟩ = some (.int .u8 (qAe bs a size n i)) := by
 have hmk := run_make_row' (P := Tryz.prog) 31 5 (.int .u8 0) 1 Tryz.underlying31 info5 rfl .i64 .i64 len (by omega) (by omega)
 have hsrc : 0 < (qAW bs len).length -> (some (⟨w.heap.size, 0, none⟩ : Addr)) = some ⟨w.heap.size, 0, none⟩ /\ ∃ x, ad = some x /\ ∀ j v, (qAW bs len)[j]? = some v -> (w.alloc (.cells (madeCells #[.int .u8 0] len) 5)).cell? (x.add j) = some v := by
  intro h0
  refine ⟨rfl, ?_⟩
  obtain ⟨b, off, rfl, hc⟩ := hrow (by simpa [qAW] using h0)
  refine ⟨_, rfl, fun j v hv => ?_⟩
  by_cases hj : j < len
  ·have := hc j hj
   have hb : b < w.heap.size := World.block_lt_of_cell? w _ this
   have hadd : (⟨b, off, none⟩ : Addr).add j = ⟨b, off + j, none⟩ := by simp [Addr.add]
   rw [hadd, World.cell?_alloc_lt _ _ _ (by simpa using hb), this]
   simpa [qAW, hj] using hv
  ·simp [qAW, hj] at hv
 have hone : ∀ v ∈ qAW bs len, v.oneCell' = true := by
  intro v hv
  simp [qAW] at hv
  obtain ⟨i, _, rfl⟩ := hv
  rfl
 have hrl : (qAW bs len).length = len := by simp [qAW]
 have H1 : (w.alloc (.cells (madeCells #[.int .u8 0] len) 5)).heap[w.heap.size]? = some (.cells (madeCells #[.int .u8 0] len).toList.toArray 5 (0, 0)) := by
  rw [heap_alloc_new]
 have H2 : (qAW bs len).length = Nat.min len len := by rw [hrl]; simp
 have H3 : 0 + (qAW bs len).length <= (madeCells #[.int .u8 0] len).toList.length := by rw [hrl]; simp [size_madeCells]
 have H4 : Below w.heap.size w (w.alloc (.cells (madeCells #[.int .u8 0] len) 5)) := (Below.refl _ _).alloc (Nat.le_refl _) _
 have hspl : splice (madeCells #[.int .u8 0] len).toList 0 (qAW bs len) = qAW bs len := by
  simp [splice, hrl, size_madeCells]
 have HSPL : Hid (splice (madeCells #[.int .u8 0] len).toList 0 (qAW bs len) = qAW bs len) := hspl
 clear hspl hrl hrow
 go_enter Tryz.func64, Tryz.ntmps64
 go_wp2_with (refine wpList_copy_splice rfl _ _ 31 31 rfl 5 Tryz.underlying31 size5 _ _ len len len cap rfl rfl w.heap.size 0 (madeCells #[.int .u8 0] len).toList 5 H1 (qAW bs len) H2 hsrc H3 hone w.heap.size w H4 (Nat.le_refl _) ?_; intro w2 HR hB2; clear H1 H2 H3 H4 hsrc hone hmk)
 have HR' : w2.heap[w.heap.size]? = some (.cells (qAW bs len).toArray 5 (0, 0)) := by rw [<- HSPL.out]; exact HR.out
 have hz2 : w.heap.size < w2.heap.size := by
  by_cases h : w.heap.size < w2.heap.size
  ·exact h
  ·rw [Array.getElem?_eq_none (by omega)] at HR'; simp at HR'
 have hcell2 : ∀ i, i < len -> w2.cell? ⟨w.heap.size, i, none⟩ = some (.int .u8 (bs i)) := by
  intro i hi
  simp [World.cell?, HR', qAW, hi]
 have hfro2 : ∀ i, w2.frozen? ⟨w.heap.size, i, none⟩ = false := by
  intro i
  simp [World.frozen?, HR']
 clear HR HR' HSPL
 go_loopw [20] (fun i wr => ∃ p : Nat, p <= len /\ i = .int .i64 p /\ Below w.heap.size w wr /\ w.heap.size < wr.heap.size /\ (∀ i, i < len -> wr.cell? ⟨w.heap.size, i, none⟩ = some (.int .u8 (if i < p then qAe bs a size n i else bs i))) /\ (∀ i, wr.frozen? ⟨w.heap.size, i, none⟩ = false)) (fun i _ => len - (intOf i).toNat)
 case atStart => exact ⟨0, Nat.zero_le _, rfl, hB2, hz2, by simpa using hcell2, hfro2⟩
 case round =>
  obtain ⟨p, hp, rfl, hB, hz, hcell, hfro⟩ := hrel
  clear hcell2 hfro2 hB2 hz2
  by_cases hlt : p < len
  ·have hp1 : (p : Int) < (len : Int) := by omega
   have hcp := hcell p hlt
   have hfp := hfro p
   have HC : Hid (∀ i, i < len -> wr.cell? ⟨w.heap.size, i, none⟩ = some (.int .u8 (if i < p then qAe bs a size n i else bs i))) := hcell
   have HF : Hid (∀ i, wr.frozen? ⟨w.heap.size, i, none⟩ = false) := hfro
   rw [if_neg (by omega)] at hcp
   clear hcell hfro
   by_cases hin : 0 <= (p : Int) - a /\ (p : Int) - a < size
   ·obtain ⟨hi0, hi1⟩ := hin
    go_wp2
    exact ⟨⟨p + 1, by omega, by go_num, hB.setCell (Nat.le_refl _) _, by simpa using hz, qFN hlt HC.out ⟨hi0, hi1⟩, fun i => by rw [World.frozen?_setCell]; exact HF.out i⟩, by simp [intOf]; omega⟩
   ·by_cases hi0 : 0 <= (p : Int) - a
    ·have hi1 : ¬ (p : Int) - a < size := by omega
     go_wp2
     exact ⟨⟨p + 1, by omega, by go_num, hB, hz, qCw HC.out (by omega), HF.out⟩, by simp [intOf]; omega⟩
    ·go_wp2
     exact ⟨⟨p + 1, by omega, by go_num, hB, hz, qCw HC.out (by omega), HF.out⟩, by simp [intOf]; omega⟩
  ·have hp1 : ¬ (p : Int) < (len : Int) := by omega
   have HC : Hid (∀ i, i < len -> wr.cell? ⟨w.heap.size, i, none⟩ = some (.int .u8 (qAe bs a size n i))) := by
    intro i hi
    have := hcell i hi
    rwa [if_pos (by omega)] at this
   clear hcell hfro
   go_wp2
   go_ret
   exact ⟨rfl, hB, hz, HC.out⟩
end Go.Proofs.YtgjmbjahgcndnaaGreatDoor.Isa
