/- The contracts of the program's isa.Get, isa.Put and isa.Signed. The program's own Get. Bytes in memory: rows that a call has made itself, what is appended onto them, bytes that lie ahead of a block. -/
import Derived.Test.YtbpoiajpcahdhaaGreatDoorPut8
import Derived.Laws.CopyOwn
import Derived.Deep.OwnRows
import Derived.Deep.AppendSrc
import Derived.Lib.ConvBytes
namespace Go.Proofs.YtbpoiajpcahdhaaGreatDoor.Oi
open Go.RowKit

/-- The byte at place p of bytes that are len many: 0, if it is not there. -/
def byteAt (bs : Nat → Int) (len : Nat) (p : Int) : Int := if 0 ≤ p ∧ p < (len : Int) then bs p.toNat else 0
/-- The number of the k bytes from at on. -/
def getTo (bs : Nat → Int) (len : Nat) (at' : Int) : Nat → Int
  | 0 => 0
  | k + 1 => getTo bs len at' k * 256 + byteAt bs len (at' + k)

def IsByte (bs : Nat → Int) : Prop := ∀ i, 0 ≤ bs i ∧ bs i ≤ 255

theorem byteAt_bd {bs : Nat → Int} (h : IsByte bs) (len : Nat) (p : Int) : 0 ≤ byteAt bs len p ∧ byteAt bs len p ≤ 255 := by
  unfold byteAt
  split
  · exact h _
  · omega

theorem getTo_bd {bs : Nat → Int} (h : IsByte bs) (len : Nat) (a : Int) (k : Nat) : 0 ≤ getTo bs len a k ∧ getTo bs len a k < (256 : Int) ^ k := by
  induction k with
  | zero => simp [getTo]
  | succ k ih =>
    have := byteAt_bd h len (a + k)
    rw [getTo, Int.pow_succ]
    omega

/-- Eight bits that are free are filled. -/
theorem or_byte (n b : Int) (h0 : 0 ≤ n) (h1 : n < 281474976710656) (h2 : 0 ≤ b) (h3 : b ≤ 255) : bits .or .i64 (n * 256) b = n * 256 + b := by
  obtain ⟨m, rfl⟩ := Int.eq_ofNat_of_zero_le h0
  obtain ⟨c, rfl⟩ := Int.eq_ofNat_of_zero_le h2
  have hm : m < 281474976710656 := by omega
  have hc : c < 256 := by omega
  have e : (m * 256) ||| c = m * 256 + c := by
    have := Nat.shiftLeft_add_eq_or_of_lt (i := 8) (b := c) (by simpa using hc) m
    rw [Nat.shiftLeft_eq] at this
    simpa using this.symm
  unfold bits
  have ha : BitVec.ofInt IntKind.i64.bits ((m : Int) * 256) = BitVec.ofNat 64 (m * 256) := by
    have : ((m : Int) * 256) = ((m * 256 : Nat) : Int) := by omega
    rw [this]; rfl
  have hb : BitVec.ofInt IntKind.i64.bits (c : Int) = BitVec.ofNat 64 c := rfl
  simp only [ha, hb]
  have ht : (BitVec.ofNat 64 (m * 256) ||| BitVec.ofNat 64 c).toNat = m * 256 + c := by
    rw [BitVec.toNat_or, BitVec.toNat_ofNat, BitVec.toNat_ofNat, Nat.mod_eq_of_lt (by omega), Nat.mod_eq_of_lt (by omega), e]
  show IntKind.i64.wrap ((BitVec.ofNat 64 (m * 256) ||| BitVec.ofNat 64 c).toNat : Int) = _
  rw [ht, IntKind.wrap_i64]
  omega

theorem info5 : (Tryz.prog.info? 5).map (fun i => (i.zero, i.size, i.bytes)) = some (some (.int .u8 0), 1, 1) := by kernel_rfl
theorem size5 : (Tryz.prog.info? 5).map (·.size) = some 1 := by kernel_rfl

/-- The byte at place i behind a Put. -/
def putAt (bs : Nat → Int) (a size n : Int) (i : Nat) : Int :=
  if 0 ≤ (i : Int) - a ∧ (i : Int) - a < size then n / 2 ^ (8 * (size - 1 - ((i : Int) - a))).toNat % 256 else bs i

def rowOf (bs : Nat → Int) (len : Nat) : List Value := (List.range len).map fun i => .int .u8 (bs i)

theorem put_step {wr : World} {g len p : Nat} {bs : Nat → Int} {a size n : Int} (hlt : p < len)
    (hc : ∀ i, i < len → wr.cell? ⟨g, i, none⟩ = some (.int .u8 (if i < p then putAt bs a size n i else bs i))) (hin : 0 ≤ (p : Int) - a ∧ (p : Int) - a < size) :
    ∀ i, i < len → (wr.setCell ⟨g, p, none⟩ (.int .u8 (n / 2 ^ (8 * (size - 1 - ((p : Int) - a))).toNat % 256))).cell? ⟨g, i, none⟩ = some (.int .u8 (if i < p + 1 then putAt bs a size n i else bs i)) := by
  intro i hi
  by_cases h : i = p
  · subst h
    rw [World.cell?_setCell_same _ _ _ (hc i hlt), if_pos (by omega)]
    unfold putAt
    rw [if_pos hin]
  · rw [World.cell?_setCell_other _ _ _ _ (by intro e; cases e; exact h rfl), hc i hi]
    by_cases h2 : i < p
    · rw [if_pos h2, if_pos (by omega)]
    · rw [if_neg h2, if_neg (by omega)]

theorem put_skip {wr : World} {g len p : Nat} {bs : Nat → Int} {a size n : Int}
    (hc : ∀ i, i < len → wr.cell? ⟨g, i, none⟩ = some (.int .u8 (if i < p then putAt bs a size n i else bs i))) (hin : ¬ (0 ≤ (p : Int) - a ∧ (p : Int) - a < size)) :
    ∀ i, i < len → wr.cell? ⟨g, i, none⟩ = some (.int .u8 (if i < p + 1 then putAt bs a size n i else bs i)) := by
  intro i hi
  rw [hc i hi]
  by_cases h : i = p
  · subst h
    rw [if_neg (by omega), if_pos (by omega)]
    unfold putAt
    rw [if_neg hin]
  · by_cases h2 : i < p
    · rw [if_pos h2, if_pos (by omega)]
    · rw [if_neg h2, if_neg (by omega)]

set_option maxHeartbeats 1000000 in
theorem put_any (ad : Option Addr) (len cap : Nat) (bs : Nat → Int) (a size n : Int) (w : World) (hlen : len ≤ 281474976710656)
    (hrow : 0 < len → ∃ b off, ad = some ⟨b, off, none⟩ ∧ ∀ i, i < len → w.cell? ⟨b, off + i, none⟩ = some (.int .u8 (bs i)))
    (hs0 : 0 ≤ size) (hs1 : size ≤ 6) (ha0 : -1000000000 ≤ a) (ha1 : a ≤ 9223372036854775000) :
    Calls Tryz.prog 66 #[.slice ad len cap, .int .i64 a, .int .i64 size, .int .i64 n] w fun e w' => e = .returned (.slice (some ⟨w.heap.size, 0, none⟩) len len) ∧ Below w.heap.size w w' ∧ w.heap.size < w'.heap.size ∧ ∀ i, i < len → w'.cell? ⟨w.heap.size, i, none⟩ = some (.int .u8 (putAt bs a size n i)) := by
  have hmk := run_make_row' (P := Tryz.prog) 36 5 (.int .u8 0) 1 Tryz.underlying36 info5 rfl .i64 .i64 len (by omega) (by omega)
  have hsrc : 0 < (rowOf bs len).length → (some (⟨w.heap.size, 0, none⟩ : Addr)) = some ⟨w.heap.size, 0, none⟩ ∧ ∃ x, ad = some x ∧ ∀ j v, (rowOf bs len)[j]? = some v → (w.alloc (.cells (madeCells #[.int .u8 0] len) 5)).cell? (x.add j) = some v := by
    intro h0
    refine ⟨rfl, ?_⟩
    obtain ⟨b, off, rfl, hc⟩ := hrow (by simpa [rowOf] using h0)
    refine ⟨_, rfl, fun j v hv => ?_⟩
    by_cases hj : j < len
    · have := hc j hj
      have hb : b < w.heap.size := World.block_lt_of_cell? w _ this
      have hadd : (⟨b, off, none⟩ : Addr).add j = ⟨b, off + j, none⟩ := by simp [Addr.add]
      rw [hadd, World.cell?_alloc_lt _ _ _ (by simpa using hb), this]
      simpa [rowOf, hj] using hv
    · simp [rowOf, hj] at hv
  have hone : ∀ v ∈ rowOf bs len, v.oneCell' = true := by
    intro v hv
    simp [rowOf] at hv
    obtain ⟨i, _, rfl⟩ := hv
    rfl
  have hrl : (rowOf bs len).length = len := by simp [rowOf]
  have H1 : (w.alloc (.cells (madeCells #[.int .u8 0] len) 5)).heap[w.heap.size]? = some (.cells (madeCells #[.int .u8 0] len).toList.toArray 5 (0, 0)) := by
    rw [heap_alloc_new]
  have H2 : (rowOf bs len).length = Nat.min len len := by rw [hrl]; simp
  have H3 : 0 + (rowOf bs len).length ≤ (madeCells #[.int .u8 0] len).toList.length := by rw [hrl]; simp [size_madeCells]
  have H4 : Below w.heap.size w (w.alloc (.cells (madeCells #[.int .u8 0] len) 5)) := (Below.refl _ _).alloc (Nat.le_refl _) _
  have hspl : splice (madeCells #[.int .u8 0] len).toList 0 (rowOf bs len) = rowOf bs len := by
    simp [splice, hrl, size_madeCells]
  have HSPL : Hid (splice (madeCells #[.int .u8 0] len).toList 0 (rowOf bs len) = rowOf bs len) := hspl
  clear hspl hrl hrow
  go_enter Tryz.func66, Tryz.ntmps66
  go_wp2_with (refine wpList_copy_splice rfl _ _ 36 36 rfl 5 Tryz.underlying36 size5 _ _ len len len cap rfl rfl w.heap.size 0 (madeCells #[.int .u8 0] len).toList 5 H1 (rowOf bs len) H2 hsrc H3 hone w.heap.size w H4 (Nat.le_refl _) ?_; intro w2 HR hB2; clear H1 H2 H3 H4 hsrc hone hmk)
  have HR' : w2.heap[w.heap.size]? = some (.cells (rowOf bs len).toArray 5 (0, 0)) := by rw [← HSPL.out]; exact HR.out
  have hz2 : w.heap.size < w2.heap.size := by
    by_cases h : w.heap.size < w2.heap.size
    · exact h
    · rw [Array.getElem?_eq_none (by omega)] at HR'; simp at HR'
  have hcell2 : ∀ i, i < len → w2.cell? ⟨w.heap.size, i, none⟩ = some (.int .u8 (bs i)) := by
    intro i hi
    simp [World.cell?, HR', rowOf, hi]
  have hfro2 : ∀ i, w2.frozen? ⟨w.heap.size, i, none⟩ = false := by
    intro i
    simp [World.frozen?, HR']
  clear HR HR' HSPL
  go_loopw [20] (fun i wr => ∃ p : Nat, p ≤ len ∧ i = .int .i64 p ∧ Below w.heap.size w wr ∧ w.heap.size < wr.heap.size ∧ (∀ i, i < len → wr.cell? ⟨w.heap.size, i, none⟩ = some (.int .u8 (if i < p then putAt bs a size n i else bs i))) ∧ (∀ i, wr.frozen? ⟨w.heap.size, i, none⟩ = false)) (fun i _ => len - (intOf i).toNat)
  case atStart => exact ⟨0, Nat.zero_le _, rfl, hB2, hz2, by simpa using hcell2, hfro2⟩
  case round =>
    obtain ⟨p, hp, rfl, hB, hz, hcell, hfro⟩ := hrel
    clear hcell2 hfro2 hB2 hz2
    by_cases hlt : p < len
    · have hp1 : (p : Int) < (len : Int) := by omega
      have hcp := hcell p hlt
      have hfp := hfro p
      have HC : Hid (∀ i, i < len → wr.cell? ⟨w.heap.size, i, none⟩ = some (.int .u8 (if i < p then putAt bs a size n i else bs i))) := hcell
      have HF : Hid (∀ i, wr.frozen? ⟨w.heap.size, i, none⟩ = false) := hfro
      rw [if_neg (by omega)] at hcp
      clear hcell hfro
      by_cases hin : 0 ≤ (p : Int) - a ∧ (p : Int) - a < size
      · obtain ⟨hi0, hi1⟩ := hin
        go_wp2
        exact ⟨⟨p + 1, by omega, by go_num, hB.setCell (Nat.le_refl _) _, by simpa using hz, put_step hlt HC.out ⟨hi0, hi1⟩, fun i => by rw [World.frozen?_setCell]; exact HF.out i⟩, by simp [intOf]; omega⟩
      · by_cases hi0 : 0 ≤ (p : Int) - a
        · have hi1 : ¬ (p : Int) - a < size := by omega
          go_wp2
          exact ⟨⟨p + 1, by omega, by go_num, hB, hz, put_skip HC.out (by omega), HF.out⟩, by simp [intOf]; omega⟩
        · go_wp2
          exact ⟨⟨p + 1, by omega, by go_num, hB, hz, put_skip HC.out (by omega), HF.out⟩, by simp [intOf]; omega⟩
    · have hp1 : ¬ (p : Int) < (len : Int) := by omega
      have HC : Hid (∀ i, i < len → wr.cell? ⟨w.heap.size, i, none⟩ = some (.int .u8 (putAt bs a size n i))) := by
        intro i hi
        have := hcell i hi
        rwa [if_pos (by omega)] at this
      clear hcell hfro
      go_wp2
      go_ret
      exact ⟨rfl, hB, hz, HC.out⟩

theorem signed_any (n : Int) (w : World) :
    Calls Tryz.prog 132 #[.int .i64 n] w fun e w' => e = .returned (.int .i64 (wrap64 (wrap32 n))) ∧ w' = w := by
  go_enter Tryz.func132, Tryz.ntmps132
  go_wp2
  go_ret
  exact ⟨rfl, rfl⟩


end Go.Proofs.YtbpoiajpcahdhaaGreatDoor.Oi

namespace Go.Proofs.YtbpoiajpcahdhaaGreatDoor.Oi
open Go.RowKit

theorem get_any (ad : Option Addr) (len cap : Nat) (bs : Nat → Int) (a size : Int) (w : World) (hbs : IsByte bs) (hlen : len ≤ maxLen)
    (hrow : 0 < len → ∃ b off, ad = some ⟨b, off, none⟩ ∧ ∀ i, i < len → w.cell? ⟨b, off + i, none⟩ = some (.int .u8 (bs i)))
    (hs0 : 0 ≤ size) (hs1 : size ≤ 6) (ha0 : -1000000000 ≤ a) (ha1 : a ≤ 9223372036854775000) :
    Calls Tryz.prog 48 #[.slice ad len cap, .int .i64 a, .int .i64 size] w fun e w' => e = .returned (.int .i64 (getTo bs len a size.toNat)) ∧ w' = w := by
  unfold maxLen at hlen
  go_enter Tryz.func48, Tryz.ntmps48
  go_wp2
  go_loop [7, 8] (fun n i => ∃ k : Nat, k ≤ size.toNat ∧ i = .int .i64 k ∧ n = .int .i64 (getTo bs len a k)) (fun _ i => size.toNat - (intOf i).toNat)
  case atStart => exact ⟨0, Nat.zero_le _, rfl, rfl⟩
  case round =>
    obtain ⟨k, hk, rfl, rfl⟩ := hrel
    by_cases hlt : k < size.toNat
    · have hk1 : (k : Int) < size := by omega
      have hg := getTo_bd hbs len a k
      have hg1 : getTo bs len a k < 281474976710656 := by
        have hk6 : k = 0 ∨ k = 1 ∨ k = 2 ∨ k = 3 ∨ k = 4 ∨ k = 5 := by omega
        have h2 := hg.2
        rcases hk6 with h | h | h | h | h | h <;> (rw [h] at h2 ⊢; simp at h2; omega)
      have hg0 := hg.1
      have HS : Hid (getTo bs len a (k + 1) = getTo bs len a k * 256 + byteAt bs len (a + k)) := rfl
      clear hg
      generalize getTo bs len a k = g at *
      by_cases hp : 0 ≤ a + k ∧ a + k < (len : Int)
      · obtain ⟨hp0, hp1⟩ := hp
        have HB : Hid (byteAt bs len (a + k) = bs (a + k).toNat) := by simp [Hid, byteAt, hp0, hp1]
        obtain ⟨b, off, rfl, hcell⟩ := hrow (by omega)
        have hc := hcell (a + k).toNat (by omega)
        have hb := hbs (a + k).toNat
        have hor := or_byte g (bs (a + k).toNat) hg0 hg1 hb.1 hb.2
        obtain ⟨hb0, hb1⟩ := hb
        clear hcell
        go_wp2
        exact ⟨⟨k + 1, by omega, by go_num, by rw [HS.out, HB.out]⟩, by simp [intOf]; omega⟩
      · have HB : Hid (byteAt bs len (a + k) = 0) := by simp [Hid, byteAt]; omega
        by_cases hp0 : 0 ≤ a + k
        · have hp1 : ¬ a + k < (len : Int) := by omega
          go_wp2
          exact ⟨⟨k + 1, by omega, by go_num, by rw [HS.out, HB.out, Int.add_zero]⟩, by simp [intOf]; omega⟩
        · go_wp2
          exact ⟨⟨k + 1, by omega, by go_num, by rw [HS.out, HB.out, Int.add_zero]⟩, by simp [intOf]; omega⟩
    · have hk1 : ¬ (k : Int) < size := by omega
      have hke : k = size.toNat := by omega
      subst hke
      go_wp2
      go_ret
      exact ⟨rfl, rfl⟩

end Go.Proofs.YtbpoiajpcahdhaaGreatDoor.Oi

namespace Go.Proofs.YtbpoiajpcahdhaaGreatDoor.Wi
open Go.RowKit

def bcells (l : List UInt8) : List Value := l.map fun c => .int .u8 (c.toNat : Int)
theorem bcells_len (l : List UInt8) : (bcells l).length = l.length * 1 := by simp [bcells]
theorem bcells_one (l : List UInt8) : ∀ v ∈ bcells l, v.oneCell' = true := by
  intro v hv
  obtain ⟨c, _, rfl⟩ := List.mem_map.1 hv
  rfl
theorem addr_add (b o j : Nat) : (⟨b, o, none⟩ : Addr).add j = ⟨b, o + j, none⟩ := by unfold Addr.add; split <;> simp_all
/-- Where the cells of a row lie. -/
def SrcOf (w : World) (ad : Option Addr) (n : Nat) (cs : List Value) : Prop := 0 < n → ∃ b o, ad = some ⟨b, o, none⟩ ∧ b < w.heap.size ∧ ∀ j v, cs[j]? = some v → w.cell? ⟨b, o + j, none⟩ = some v
theorem SrcOf.below {w w' : World} {B : Nat} {ad : Option Addr} {n : Nat} {cs : List Value} (h : SrcOf w ad n cs) (hb : Below B w w') (hB : w.heap.size ≤ B) : SrcOf w' ad n cs := fun h0 => by
  obtain ⟨b, o, rfl, hl, hc⟩ := h h0
  exact ⟨b, o, rfl, Nat.lt_of_lt_of_le hl hb.size, fun j v hj => by rw [hb.cell (by show b < B; omega)]; exact hc j v hj⟩
theorem OBytes.src {w : World} {v : Value} {l : List UInt8} (h : OBytes w v l) : ∃ ad cap, v = .slice ad l.length cap ∧ SrcOf w ad l.length (bcells l) := by
  obtain ⟨ad, cap, rfl, _, hc⟩ := h
  refine ⟨ad, cap, rfl, fun h0 => ?_⟩
  obtain ⟨b, o, rfl, hl, hcs⟩ := hc h0
  refine ⟨b, o, rfl, hl, fun j v hj => ?_⟩
  obtain ⟨hj1, hj2⟩ := List.getElem?_eq_some_iff.1 hj
  have hj3 : j < l.length := by simpa [bcells] using hj1
  rw [hcs j hj3, ← hj2]
  simp [bcells]
theorem infoB : (Tryz.prog.info? 5).map (fun i => (i.zero, i.size, i.bytes)) = some (some (.int .u8 0), 1, 1) := by kernel_rfl
theorem makeB (n : Nat) (hn : n * 1 ≤ 140737488355328) (w : World) : (Instr.makeSlice 36 (.int .i64 (n : Int)) (.int .i64 (n : Int))).run Tryz.prog w = .ok (.slice (some ⟨w.heap.size, 0, none⟩) n n) (w.alloc (.cells (madeCells #[.int .u8 0] (n * 1)) 5)) := by
  obtain ⟨i, hi, hz0, hz1, hz2⟩ := info_parts infoB
  have := run_make (P := Tryz.prog) w 36 5 i _ Tryz.underlying36 hi hz0 .i64 .i64 (n : Int) (n : Int) (by omega) (by omega) (by rw [hz2]; omega) (by omega)
  rw [hz1] at this
  exact this
/-- Bytes that the call itself has made, from block base on. -/
def Out (w : World) (base : Nat) (v : Value) (l : List UInt8) : Prop := w.ownsRow base 5 1 v l.length (bcells l) ∧ base ≤ w.heap.size
theorem Out.lt {w : World} {base : Nat} {v : Value} {l : List UInt8} (h : Out w base v l) : ∀ k, v.ownBlock = some k → base ≤ k ∧ k < w.heap.size := h.1.lt
/-- A block of another type is not the row. -/
theorem Out.other {w : World} {base : Nat} {v : Value} {l : List UInt8} (h : Out w base v l) {b : Nat} {c : Array Value} {t : TypeId} {f : Nat × Nat} (hb : w.heap[b]? = some (.cells c t f)) (ht : t ≠ 5) : some b ≠ v.ownBlock := by
  rcases h.1.2 with ⟨rfl, _⟩ | ⟨g, cap, cur, rfl, _, hg, _⟩
  · simp [Value.ownBlock]
  · intro e
    simp only [Value.ownBlock, Option.some.injEq] at e
    subst e
    rw [hb] at hg
    injection hg with hg
    injection hg with _ h2
    exact ht h2
theorem Out.box {w w' : World} {base : Nat} {v : Value} {l : List UInt8} (h : Out w base v l) (hg : w.grownBy w' v.ownBlock) {b : Nat} {c : Array Value} {t : TypeId} {f : Nat × Nat} (hb : w.heap[b]? = some (.cells c t f)) (ht : t ≠ 5) : w'.heap[b]? = some (.cells c t f) := by
  rw [hg.block b (Array.getElem?_eq_some_iff.1 hb).1 (h.other hb ht)]
  exact hb
theorem Out.alloc {w : World} {base : Nat} {v : Value} {l : List UInt8} (h : Out w base v l) (o : Obj) : Out (w.alloc o) base v l := ⟨h.1.alloc o, by have := h.2; simp; omega⟩
theorem Out.below {w w' : World} {base B : Nat} {v : Value} {l : List UInt8} (h : Out w base v l) (hb : Below B w w') (hB : w.heap.size ≤ B) : Out w' base v l :=
  ⟨h.1.kept (ogbelow none hb hB) (by cases v.ownBlock <;> simp), Nat.le_trans h.2 hb.size⟩
theorem Out.grown {w0 w w' : World} {base B : Nat} {v : Value} {l : List UInt8} (h : Out w base v l) (hb : Below B w0 w) (hg : w.grownBy w' v.ownBlock) (hB : B ≤ base) : Below B w0 w' :=
  hb.grown hg (Nat.le_trans hB h.2) (fun j hj => Nat.le_trans hB (h.lt j hj).1)
theorem Out.bytes {w : World} {base : Nat} {v : Value} {l : List UInt8} (h : Out w base v l) (hl : l.length ≤ maxLen) : OBytes w v l := by
  rcases h.1.2 with ⟨rfl, h0⟩ | ⟨g, cap, cur, rfl, _, hg, _, _, _, htake⟩
  · exact ⟨none, 0, by rw [h0], hl, fun h1 => by omega⟩
  · refine ⟨_, cap, rfl, hl, fun _ => ⟨g, 0, rfl, (Array.getElem?_eq_some_iff.1 hg).1, fun i hi => ?_⟩⟩
    have := h.1.cells (g := g) rfl i (.int .u8 (l[i].toNat : Int)) (by simp [bcells, hi])
    rwa [addr_add] at this
theorem bcells_app (a b : List UInt8) : bcells (a ++ b) = bcells a ++ bcells b := by simp [bcells]
/-- Bytes appended onto one's own. -/
theorem app_bytes {w : World} {base : Nat} {v : Value} {l : List UInt8} (ho : Out w base v l) (a : Addr) (m c : Nat) (news : List UInt8) (hm : news.length = m) (hsrc : ∀ j u, (bcells news)[j]? = some u → w.cell? (a.add j) = some u) (hl : l.length + m ≤ 140737488355328) :
    ∃ v' w', (∀ ty, (Builtin.append_ #[36, 36] ty #[v, .slice (some a) m c]).run Tryz.prog w = .ok v' w') ∧ Out w' base v' (l ++ news) ∧ w.grownBy w' v.ownBlock := by
  obtain ⟨i, hi, hz0, hz1, hz2⟩ := info_parts infoB
  have key := fun ty => run_append_own (P := Tryz.prog) w base 36 ty 5 i _ 1 1 Tryz.underlying36 hi hz0 hz1 hz2 rfl (by decide) v l.length (bcells l) ho.1 a m c (bcells news) (by rw [bcells_len, hm]) hsrc (bcells_one news) (by unfold maxLen; omega) (by omega) ho.2
  obtain ⟨v', w', hr, h2, h3, _⟩ := key 0
  refine ⟨v', w', fun ty => ?_, ⟨?_, Nat.le_trans ho.2 h3.size⟩, h3⟩
  · obtain ⟨v2, w2, hr2, _⟩ := key ty
    have e : (Builtin.append_ #[36, 36] ty #[v, .slice (some a) m c]).run Tryz.prog w = (Builtin.append_ #[36, 36] 0 #[v, .slice (some a) m c]).run Tryz.prog w := rfl
    rw [e, hr]
  · rw [bcells_app, List.length_append, hm]
    exact h2
/-- An append whose run is known. -/
theorem wpList_app_eq {P : Program} {w : World} {ops : Array Oper} {rest : List Oper} {o : Oper} {a : Act} {Q : Exit → Act → World → Prop} (hgd : o.guard = none) (sl x : Operand) (t u : TypeId)
    (ho : o.op = .call { callee := .builtin .append, args := #[sl, x], argTypes := #[t, u] }) (v v2 : Value) (hs : a.eval sl = v) (hx : a.eval x = v2) {v' : Value} {w' : World}
    (hr : ∀ ty, (Builtin.append_ #[t, u] ty #[v, v2]).run P w = .ok v' w') (h : wpList P ops Q rest (a.put o.dst v') w') : wpList P ops Q (o :: rest) a w := by
  refine wpList_plain hgd fun K hK => ?_
  have hr := hr o.type
  unfold Oper.wp execOp
  simp only [ho, resolve, invoke, builtin, Sem.run_bind, Sem.run_pure, Result.andThen_ok, List.map_toArray, List.map_cons, List.map_nil, hs, hx, hr]
  exact hK _ _ h
/-- What can be appended onto. -/
def CanApp (w : World) (base : Nat) (v : Value) (l : List UInt8) (row : Option Nat) : Prop :=
  ∀ W, Below w.heap.size w W → ∀ (a : Addr) (m c : Nat) (news : List UInt8), news.length = m → 0 < m → (∀ j u, (bcells news)[j]? = some u → W.cell? (a.add j) = some u) → l.length + m ≤ 140737488355328 →
    ∃ v' w', (∀ ty, (Builtin.append_ #[36, 36] ty #[v, .slice (some a) m c]).run Tryz.prog W = .ok v' w') ∧ Out w' base v' (l ++ news) ∧ W.grownBy w' row
theorem Out.canApp {w : World} {base : Nat} {v : Value} {l : List UInt8} (h : Out w base v l) : CanApp w base v l v.ownBlock := fun _ hW a m c news hm _ hs hl => app_bytes (h.below hW (Nat.le_refl _)) a m c news hm hs hl
/-- Bytes that lie somewhere appended onto one's own. -/
theorem app_src {w : World} {base : Nat} {v : Value} {l : List UInt8} (ho : Out w base v l) (hl0 : 0 < l.length) (ad : Option Addr) (m c : Nat) (news : List UInt8) (hm : news.length = m) (hsrc : SrcOf w ad m (bcells news)) (hl : l.length + m ≤ 140737488355328) :
    ∃ v' w', (∀ ty, (Builtin.append_ #[36, 36] ty #[v, .slice ad m c]).run Tryz.prog w = .ok v' w') ∧ Out w' base v' (l ++ news) ∧ w.grownBy w' v.ownBlock := by
  cases ad with
  | some a =>
    refine app_bytes ho a m c news hm (fun j u hj => ?_) hl
    by_cases h0 : 0 < m
    · obtain ⟨b, o, e, _, hc⟩ := hsrc h0
      cases e
      rw [addr_add]
      exact hc j u hj
    · have : news = [] := List.eq_nil_of_length_eq_zero (by omega)
      rw [this] at hj
      simp [bcells] at hj
  | none =>
    have h0 : m = 0 := by
      by_cases h : 0 < m
      · obtain ⟨_, _, e, _⟩ := hsrc h
        cases e
      · omega
    subst h0
    have hn : news = [] := List.eq_nil_of_length_eq_zero (by omega)
    subst hn
    obtain ⟨i, hi, _, hz1, _⟩ := info_parts infoB
    rcases ho.1.2 with ⟨_, h⟩ | ⟨g, cap, cur, rfl, hb, hg, hnc, rest⟩
    · omega
    · refine ⟨_, w, fun ty => ?_, by simpa using ho, World.grownBy.refl w _⟩
      have := run_append_room_src (P := Tryz.prog) w 36 36 ty 5 i Tryz.underlying36 hi g 0 l.length cap (.slice none 0 c) 0 [] (Src.ofNil w Tryz.underlying36 c) (by omega) (by simp) (by simp)
      simpa [World.setCells] using this
theorem cell_of_block {w : World} {b i : Nat} {c : Array Value} {t : TypeId} {f : Nat × Nat} {v : Value} (h : w.heap[b]? = some (.cells c t f)) (hv : c[i]? = some v) : w.cell? ⟨b, i, none⟩ = some v := by
  unfold World.cell?
  simp only [h]
  exact hv
/-- Bytes that lie ahead of block Q. -/
def BSrc (w : World) (Q : Nat) (ad : Option Addr) (cap : Nat) (l : List UInt8) : Prop :=
  (ad = none ∧ cap = 0 ∧ l = []) ∨ (∃ a, ad = some a ∧ l.length ≤ cap ∧ (0 < l.length → ∃ b o, a = ⟨b, o, none⟩ ∧ b < Q ∧ ∀ i (h : i < l.length), w.cell? ⟨b, o + i, none⟩ = some (.int .u8 (l[i].toNat : Int))))
def RB (w : World) (Q : Nat) (v : Value) (l : List UInt8) : Prop := ∃ ad cap, v = .slice ad l.length cap ∧ BSrc w Q ad cap l
theorem RB.bytes {w : World} {Q : Nat} {v : Value} {l : List UInt8} (h : RB w Q v l) (hQ : Q ≤ w.heap.size) (hl : l.length ≤ maxLen) : OBytes w v l := by
  obtain ⟨ad, cap, rfl, h⟩ := h
  refine ⟨ad, cap, rfl, hl, fun h0 => ?_⟩
  rcases h with ⟨_, _, rfl⟩ | ⟨a, rfl, _, h⟩
  · simp at h0
  · obtain ⟨b, o, rfl, hb, hcs⟩ := h h0
    exact ⟨b, o, rfl, Nat.lt_of_lt_of_le hb hQ, hcs⟩
theorem bnext {w w1 w2 : World} (h : Below w.heap.size w w1) (k : Below w1.heap.size w1 w2) : Below w.heap.size w w2 := h.trans (k.mono h.size)

end Go.Proofs.YtbpoiajpcahdhaaGreatDoor.Wi
