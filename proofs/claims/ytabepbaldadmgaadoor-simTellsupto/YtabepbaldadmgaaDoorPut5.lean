/- What the document's own Encode and Decode go by: no function of the program. The contract of isa.Get: a number of at most six bytes. The contract of isa.Put: a number of at most six bytes. -/
import Derived.Test.YtabepbaldadmgaaDoorPut3
import Derived.Test.YtabepbaldadmgaaDoorIsaTurn
import Derived.Test.YtabepbaldadmgaaDoorPut1
import Derived.Laws.CopyOwn
import Derived.Deep.OwnRows
namespace Go.Proofs.YtabepbaldadmgaaDoor.Isa
open Go.RowKit

/-- Bit by bit from the lowest one on: what is left of the text, the registers and the number, what is written, the next bit's worth. -/
def encRun : List UInt8 → Int → Int → Int → Int → Int → Int
  | [], _, _, _, w, _ => w
  | c :: cs, n, m, v, w, p =>
    if c = 49 then encRun cs n m v (w + p) (2 * p)
    else if c = 110 then encRun cs (n / 2) m v (w + n % 2 * p) (2 * p)
    else if c = 109 then encRun cs n (m / 2) v (w + m % 2 * p) (2 * p)
    else if c = 105 then encRun cs n m (v / 2) (w + v % 2 * p) (2 * p)
    else encRun cs n m v w (2 * p)

/-- The text from its end. -/
def revBits (k : Int) : List UInt8 := (refBits k).data.toList.reverse

theorem and_one (z : Int) : bits .and .i64 z 1 = z % 2 := by
  show IntKind.i64.wrap ((BitVec.ofInt IntKind.i64.bits z &&& BitVec.ofInt IntKind.i64.bits 1).toNat : Int) = _
  have : (BitVec.ofInt IntKind.i64.bits z &&& BitVec.ofInt IntKind.i64.bits 1).toNat = (z % 18446744073709551616).toNat % 2 := by
    show (BitVec.ofInt 64 z &&& BitVec.ofNat 64 1).toNat = _
    rw [BitVec.toNat_and, ofInt_toNat]
    show (z % 18446744073709551616).toNat &&& 1 = _
    rw [Nat.and_one_is_mod]
  rw [this, IntKind.wrap_i64]
  omega

theorem field26 (a : ByteArray) (b : Int) (c : ByteArray) (w : World) : (Instr.field 65 (.agg #[.string a, .int .i64 b, .string c]) 2).run Tryd.prog w = .ok (.string c) w := by kernel_rfl

theorem index9 (s : ByteArray) (k : Nat) (i : Int) (hi : i = (k : Int)) (hk : k < s.size) (w : World) : (Instr.index 9 (.string s) (.int .i64 i)).run Tryd.prog w = .ok (.int .u8 (s[k].toNat : Int)) w := by
  subst hi
  simp [Instr.index, run_underlying Tryd.underlying9, asIntOf, hk]

theorem rev_drop (s : ByteArray) (k : Nat) (h16 : s.size = 16) (hk : k < 16) : s.data.toList.reverse.drop k = s[15 - k] :: s.data.toList.reverse.drop (k + 1) := by
  have hl : s.data.toList.length = 16 := h16
  rw [List.drop_eq_getElem_cons (by simp [hl]; omega)]
  congr 1
  rw [List.getElem_reverse]
  have : s.data.toList.length - 1 - k = 15 - k := by omega
  simp only [this]
  rfl

theorem refBits_16 (k : Int) (h0 : 1 ≤ k) (h1 : k ≤ 27) : (refBits k).size = 16 := by
  obtain ⟨j, rfl⟩ := Int.eq_ofNat_of_zero_le (show 0 ≤ k by omega)
  have : ∀ i : Fin 28, i.val ≠ 0 → (refBits (i.val : Int)).size = 16 := by decide +kernel
  exact this ⟨j, by omega⟩ (by show j ≠ 0; omega)

end Go.Proofs.YtabepbaldadmgaaDoor.Isa

namespace Go.Proofs.YtabepbaldadmgaaDoor.Isa
open Go.RowKit

/-- The byte at place p of bytes that are len many: 0, if it is not there. -/
def byteAt (bs : Nat → Int) (len : Nat) (p : Int) : Int := if 0 ≤ p ∧ p < (len : Int) then bs p.toNat else 0
/-- The number of the k bytes from at on. -/
def getTo (bs : Nat → Int) (len : Nat) (at' : Int) : Nat → Int
  | 0 => 0
  | k + 1 => getTo bs len at' k * 256 + byteAt bs len (at' + k)

def IsByte (bs : Nat → Int) : Prop := ∀ i, 0 ≤ bs i ∧ bs i ≤ 255

theorem byteAt_bd {bs : Nat → Int} (h : IsByte bs) (len : Nat) (p : Int) : 0 ≤ byteAt bs len p ∧ byteAt bs len p ≤ 255 := by
  unfold byteAt
  split
  · exact h _
  · omega

theorem getTo_bd {bs : Nat → Int} (h : IsByte bs) (len : Nat) (a : Int) (k : Nat) : 0 ≤ getTo bs len a k ∧ getTo bs len a k < (256 : Int) ^ k := by
  induction k with
  | zero => simp [getTo]
  | succ k ih =>
    have := byteAt_bd h len (a + k)
    rw [getTo, Int.pow_succ]
    omega

/-- Eight bits that are free are filled. -/
theorem or_byte (n b : Int) (h0 : 0 ≤ n) (h1 : n < 281474976710656) (h2 : 0 ≤ b) (h3 : b ≤ 255) : bits .or .i64 (n * 256) b = n * 256 + b := by
  obtain ⟨m, rfl⟩ := Int.eq_ofNat_of_zero_le h0
  obtain ⟨c, rfl⟩ := Int.eq_ofNat_of_zero_le h2
  have hm : m < 281474976710656 := by omega
  have hc : c < 256 := by omega
  have e : (m * 256) ||| c = m * 256 + c := by
    have := Nat.shiftLeft_add_eq_or_of_lt (i := 8) (b := c) (by simpa using hc) m
    rw [Nat.shiftLeft_eq] at this
    simpa using this.symm
  unfold bits
  have ha : BitVec.ofInt IntKind.i64.bits ((m : Int) * 256) = BitVec.ofNat 64 (m * 256) := by
    have : ((m : Int) * 256) = ((m * 256 : Nat) : Int) := by omega
    rw [this]; rfl
  have hb : BitVec.ofInt IntKind.i64.bits (c : Int) = BitVec.ofNat 64 c := rfl
  simp only [ha, hb]
  have ht : (BitVec.ofNat 64 (m * 256) ||| BitVec.ofNat 64 c).toNat = m * 256 + c := by
    rw [BitVec.toNat_or, BitVec.toNat_ofNat, BitVec.toNat_ofNat, Nat.mod_eq_of_lt (by omega), Nat.mod_eq_of_lt (by omega), e]
  show IntKind.i64.wrap ((BitVec.ofNat 64 (m * 256) ||| BitVec.ofNat 64 c).toNat : Int) = _
  rw [ht, IntKind.wrap_i64]
  omega

theorem get_any (ad : Option Addr) (len cap : Nat) (bs : Nat → Int) (a size : Int) (w : World) (hbs : IsByte bs) (hlen : len ≤ maxLen)
    (hrow : 0 < len → ∃ b off, ad = some ⟨b, off, none⟩ ∧ ∀ i, i < len → w.cell? ⟨b, off + i, none⟩ = some (.int .u8 (bs i)))
    (hs0 : 0 ≤ size) (hs1 : size ≤ 6) (ha0 : -1000000000 ≤ a) (ha1 : a ≤ 9223372036854775000) :
    Calls Tryd.prog 42 #[.slice ad len cap, .int .i64 a, .int .i64 size] w fun e w' => e = .returned (.int .i64 (getTo bs len a size.toNat)) ∧ w' = w := by
  unfold maxLen at hlen
  go_enter Tryd.func42, Tryd.ntmps42
  go_wp2
  go_loop [7, 8] (fun n i => ∃ k : Nat, k ≤ size.toNat ∧ i = .int .i64 k ∧ n = .int .i64 (getTo bs len a k)) (fun _ i => size.toNat - (intOf i).toNat)
  case atStart => exact ⟨0, Nat.zero_le _, rfl, rfl⟩
  case round =>
    obtain ⟨k, hk, rfl, rfl⟩ := hrel
    by_cases hlt : k < size.toNat
    · have hk1 : (k : Int) < size := by omega
      have hg := getTo_bd hbs len a k
      have hg1 : getTo bs len a k < 281474976710656 := by
        have hk6 : k = 0 ∨ k = 1 ∨ k = 2 ∨ k = 3 ∨ k = 4 ∨ k = 5 := by omega
        have h2 := hg.2
        rcases hk6 with h | h | h | h | h | h <;> (rw [h] at h2 ⊢; simp at h2; omega)
      have hg0 := hg.1
      have HS : Hid (getTo bs len a (k + 1) = getTo bs len a k * 256 + byteAt bs len (a + k)) := rfl
      clear hg
      generalize getTo bs len a k = g at *
      by_cases hp : 0 ≤ a + k ∧ a + k < (len : Int)
      · obtain ⟨hp0, hp1⟩ := hp
        have HB : Hid (byteAt bs len (a + k) = bs (a + k).toNat) := by simp [Hid, byteAt, hp0, hp1]
        obtain ⟨b, off, rfl, hcell⟩ := hrow (by omega)
        have hc := hcell (a + k).toNat (by omega)
        have hb := hbs (a + k).toNat
        have hor := or_byte g (bs (a + k).toNat) hg0 hg1 hb.1 hb.2
        obtain ⟨hb0, hb1⟩ := hb
        clear hcell
        go_wp2
        exact ⟨⟨k + 1, by omega, by go_num, by rw [HS.out, HB.out]⟩, by simp [intOf]; omega⟩
      · have HB : Hid (byteAt bs len (a + k) = 0) := by simp [Hid, byteAt]; omega
        by_cases hp0 : 0 ≤ a + k
        · have hp1 : ¬ a + k < (len : Int) := by omega
          go_wp2
          exact ⟨⟨k + 1, by omega, by go_num, by rw [HS.out, HB.out, Int.add_zero]⟩, by simp [intOf]; omega⟩
        · go_wp2
          exact ⟨⟨k + 1, by omega, by go_num, by rw [HS.out, HB.out, Int.add_zero]⟩, by simp [intOf]; omega⟩
    · have hk1 : ¬ (k : Int) < size := by omega
      have hke : k = size.toNat := by omega
      subst hke
      go_wp2
      go_ret
      exact ⟨rfl, rfl⟩

end Go.Proofs.YtabepbaldadmgaaDoor.Isa

namespace Go.Proofs.YtabepbaldadmgaaDoor.Isa
open Go.RowKit

theorem info5 : (Tryd.prog.info? 5).map (fun i => (i.zero, i.size, i.bytes)) = some (some (.int .u8 0), 1, 1) := by kernel_rfl
theorem size5 : (Tryd.prog.info? 5).map (·.size) = some 1 := by kernel_rfl

/-- The byte at place i behind a Put. -/
def putAt (bs : Nat → Int) (a size n : Int) (i : Nat) : Int :=
  if 0 ≤ (i : Int) - a ∧ (i : Int) - a < size then n / 2 ^ (8 * (size - 1 - ((i : Int) - a))).toNat % 256 else bs i

def rowOf (bs : Nat → Int) (len : Nat) : List Value := (List.range len).map fun i => .int .u8 (bs i)

theorem put_step {wr : World} {g len p : Nat} {bs : Nat → Int} {a size n : Int} (hlt : p < len)
    (hc : ∀ i, i < len → wr.cell? ⟨g, i, none⟩ = some (.int .u8 (if i < p then putAt bs a size n i else bs i))) (hin : 0 ≤ (p : Int) - a ∧ (p : Int) - a < size) :
    ∀ i, i < len → (wr.setCell ⟨g, p, none⟩ (.int .u8 (n / 2 ^ (8 * (size - 1 - ((p : Int) - a))).toNat % 256))).cell? ⟨g, i, none⟩ = some (.int .u8 (if i < p + 1 then putAt bs a size n i else bs i)) := by
  intro i hi
  by_cases h : i = p
  · subst h
    rw [World.cell?_setCell_same _ _ _ (hc i hlt), if_pos (by omega)]
    unfold putAt
    rw [if_pos hin]
  · rw [World.cell?_setCell_other _ _ _ _ (by intro e; cases e; exact h rfl), hc i hi]
    by_cases h2 : i < p
    · rw [if_pos h2, if_pos (by omega)]
    · rw [if_neg h2, if_neg (by omega)]

theorem put_skip {wr : World} {g len p : Nat} {bs : Nat → Int} {a size n : Int}
    (hc : ∀ i, i < len → wr.cell? ⟨g, i, none⟩ = some (.int .u8 (if i < p then putAt bs a size n i else bs i))) (hin : ¬ (0 ≤ (p : Int) - a ∧ (p : Int) - a < size)) :
    ∀ i, i < len → wr.cell? ⟨g, i, none⟩ = some (.int .u8 (if i < p + 1 then putAt bs a size n i else bs i)) := by
  intro i hi
  rw [hc i hi]
  by_cases h : i = p
  · subst h
    rw [if_neg (by omega), if_pos (by omega)]
    unfold putAt
    rw [if_neg hin]
  · by_cases h2 : i < p
    · rw [if_pos h2, if_pos (by omega)]
    · rw [if_neg h2, if_neg (by omega)]

set_option maxHeartbeats 1000000 in
theorem put_any (ad : Option Addr) (len cap : Nat) (bs : Nat → Int) (a size n : Int) (w : World) (hlen : len ≤ 281474976710656)
    (hrow : 0 < len → ∃ b off, ad = some ⟨b, off, none⟩ ∧ ∀ i, i < len → w.cell? ⟨b, off + i, none⟩ = some (.int .u8 (bs i)))
    (hs0 : 0 ≤ size) (hs1 : size ≤ 6) (ha0 : -1000000000 ≤ a) (ha1 : a ≤ 9223372036854775000) :
    Calls Tryd.prog 58 #[.slice ad len cap, .int .i64 a, .int .i64 size, .int .i64 n] w fun e w' => e = .returned (.slice (some ⟨w.heap.size, 0, none⟩) len len) ∧ Below w.heap.size w w' ∧ w.heap.size < w'.heap.size ∧ ∀ i, i < len → w'.cell? ⟨w.heap.size, i, none⟩ = some (.int .u8 (putAt bs a size n i)) := by
  have hmk := run_make_row' (P := Tryd.prog) 23 5 (.int .u8 0) 1 Tryd.underlying23 info5 rfl .i64 .i64 len (by omega) (by omega)
  have hsrc : 0 < (rowOf bs len).length → (some (⟨w.heap.size, 0, none⟩ : Addr)) = some ⟨w.heap.size, 0, none⟩ ∧ ∃ x, ad = some x ∧ ∀ j v, (rowOf bs len)[j]? = some v → (w.alloc (.cells (madeCells #[.int .u8 0] len) 5)).cell? (x.add j) = some v := by
    intro h0
    refine ⟨rfl, ?_⟩
    obtain ⟨b, off, rfl, hc⟩ := hrow (by simpa [rowOf] using h0)
    refine ⟨_, rfl, fun j v hv => ?_⟩
    by_cases hj : j < len
    · have := hc j hj
      have hb : b < w.heap.size := World.block_lt_of_cell? w _ this
      have hadd : (⟨b, off, none⟩ : Addr).add j = ⟨b, off + j, none⟩ := by simp [Addr.add]
      rw [hadd, World.cell?_alloc_lt _ _ _ (by simpa using hb), this]
      simpa [rowOf, hj] using hv
    · simp [rowOf, hj] at hv
  have hone : ∀ v ∈ rowOf bs len, v.oneCell' = true := by
    intro v hv
    simp [rowOf] at hv
    obtain ⟨i, _, rfl⟩ := hv
    rfl
  have hrl : (rowOf bs len).length = len := by simp [rowOf]
  have H1 : (w.alloc (.cells (madeCells #[.int .u8 0] len) 5)).heap[w.heap.size]? = some (.cells (madeCells #[.int .u8 0] len).toList.toArray 5 (0, 0)) := by
    rw [heap_alloc_new]
  have H2 : (rowOf bs len).length = Nat.min len len := by rw [hrl]; simp
  have H3 : 0 + (rowOf bs len).length ≤ (madeCells #[.int .u8 0] len).toList.length := by rw [hrl]; simp [size_madeCells]
  have H4 : Below w.heap.size w (w.alloc (.cells (madeCells #[.int .u8 0] len) 5)) := (Below.refl _ _).alloc (Nat.le_refl _) _
  have hspl : splice (madeCells #[.int .u8 0] len).toList 0 (rowOf bs len) = rowOf bs len := by
    simp [splice, hrl, size_madeCells]
  have HSPL : Hid (splice (madeCells #[.int .u8 0] len).toList 0 (rowOf bs len) = rowOf bs len) := hspl
  clear hspl hrl hrow
  go_enter Tryd.func58, Tryd.ntmps58
  go_wp2_with (refine wpList_copy_splice rfl _ _ 23 23 rfl 5 Tryd.underlying23 size5 _ _ len len len cap rfl rfl w.heap.size 0 (madeCells #[.int .u8 0] len).toList 5 H1 (rowOf bs len) H2 hsrc H3 hone w.heap.size w H4 (Nat.le_refl _) ?_; intro w2 HR hB2; clear H1 H2 H3 H4 hsrc hone hmk)
  have HR' : w2.heap[w.heap.size]? = some (.cells (rowOf bs len).toArray 5 (0, 0)) := by rw [← HSPL.out]; exact HR.out
  have hz2 : w.heap.size < w2.heap.size := by
    by_cases h : w.heap.size < w2.heap.size
    · exact h
    · rw [Array.getElem?_eq_none (by omega)] at HR'; simp at HR'
  have hcell2 : ∀ i, i < len → w2.cell? ⟨w.heap.size, i, none⟩ = some (.int .u8 (bs i)) := by
    intro i hi
    simp [World.cell?, HR', rowOf, hi]
  have hfro2 : ∀ i, w2.frozen? ⟨w.heap.size, i, none⟩ = false := by
    intro i
    simp [World.frozen?, HR']
  clear HR HR' HSPL
  go_loopw [20] (fun i wr => ∃ p : Nat, p ≤ len ∧ i = .int .i64 p ∧ Below w.heap.size w wr ∧ w.heap.size < wr.heap.size ∧ (∀ i, i < len → wr.cell? ⟨w.heap.size, i, none⟩ = some (.int .u8 (if i < p then putAt bs a size n i else bs i))) ∧ (∀ i, wr.frozen? ⟨w.heap.size, i, none⟩ = false)) (fun i _ => len - (intOf i).toNat)
  case atStart => exact ⟨0, Nat.zero_le _, rfl, hB2, hz2, by simpa using hcell2, hfro2⟩
  case round =>
    obtain ⟨p, hp, rfl, hB, hz, hcell, hfro⟩ := hrel
    clear hcell2 hfro2 hB2 hz2
    by_cases hlt : p < len
    · have hp1 : (p : Int) < (len : Int) := by omega
      have hcp := hcell p hlt
      have hfp := hfro p
      have HC : Hid (∀ i, i < len → wr.cell? ⟨w.heap.size, i, none⟩ = some (.int .u8 (if i < p then putAt bs a size n i else bs i))) := hcell
      have HF : Hid (∀ i, wr.frozen? ⟨w.heap.size, i, none⟩ = false) := hfro
      rw [if_neg (by omega)] at hcp
      clear hcell hfro
      by_cases hin : 0 ≤ (p : Int) - a ∧ (p : Int) - a < size
      · obtain ⟨hi0, hi1⟩ := hin
        go_wp2
        exact ⟨⟨p + 1, by omega, by go_num, hB.setCell (Nat.le_refl _) _, by simpa using hz, put_step hlt HC.out ⟨hi0, hi1⟩, fun i => by rw [World.frozen?_setCell]; exact HF.out i⟩, by simp [intOf]; omega⟩
      · by_cases hi0 : 0 ≤ (p : Int) - a
        · have hi1 : ¬ (p : Int) - a < size := by omega
          go_wp2
          exact ⟨⟨p + 1, by omega, by go_num, hB, hz, put_skip HC.out (by omega), HF.out⟩, by simp [intOf]; omega⟩
        · go_wp2
          exact ⟨⟨p + 1, by omega, by go_num, hB, hz, put_skip HC.out (by omega), HF.out⟩, by simp [intOf]; omega⟩
    · have hp1 : ¬ (p : Int) < (len : Int) := by omega
      have HC : Hid (∀ i, i < len → wr.cell? ⟨w.heap.size, i, none⟩ = some (.int .u8 (putAt bs a size n i))) := by
        intro i hi
        have := hcell i hi
        rwa [if_pos (by omega)] at this
      clear hcell hfro
      go_wp2
      go_ret
      exact ⟨rfl, hB, hz, HC.out⟩

end Go.Proofs.YtabepbaldadmgaaDoor.Isa
