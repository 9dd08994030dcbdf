/- What the document's own Encode and Decode go by: no function of the program. -/
import Derived.Test.YtgadpimknobljaaDoorIsaRefX
import Derived.Test.YtgadpimknobljaaDoorIsaTurn
namespace Go.Proofs.YtgadpimknobljaaDoor.Isa
open Go.RowKit

/-- Bit by bit from the lowest one on: what is left of the text, the registers and the number, what is written, the next bit's worth. -/
def encRun : List UInt8 → Int → Int → Int → Int → Int → Int
  | [], _, _, _, w, _ => w
  | c :: cs, n, m, v, w, p =>
    if c = 49 then encRun cs n m v (w + p) (2 * p)
    else if c = 110 then encRun cs (n / 2) m v (w + n % 2 * p) (2 * p)
    else if c = 109 then encRun cs n (m / 2) v (w + m % 2 * p) (2 * p)
    else if c = 105 then encRun cs n m (v / 2) (w + v % 2 * p) (2 * p)
    else encRun cs n m v w (2 * p)

/-- The text from its end. -/
def revBits (k : Int) : List UInt8 := (refBits k).data.toList.reverse

theorem and_one (z : Int) : bits .and .i64 z 1 = z % 2 := by
  show IntKind.i64.wrap ((BitVec.ofInt IntKind.i64.bits z &&& BitVec.ofInt IntKind.i64.bits 1).toNat : Int) = _
  have : (BitVec.ofInt IntKind.i64.bits z &&& BitVec.ofInt IntKind.i64.bits 1).toNat = (z % 18446744073709551616).toNat % 2 := by
    show (BitVec.ofInt 64 z &&& BitVec.ofNat 64 1).toNat = _
    rw [BitVec.toNat_and, ofInt_toNat]
    show (z % 18446744073709551616).toNat &&& 1 = _
    rw [Nat.and_one_is_mod]
  rw [this, IntKind.wrap_i64]
  omega

theorem field26 (a : ByteArray) (b : Int) (c : ByteArray) (w : World) : (Instr.field 51 (.agg #[.string a, .int .i64 b, .string c]) 2).run Tryd.prog w = .ok (.string c) w := by kernel_rfl

theorem index9 (s : ByteArray) (k : Nat) (i : Int) (hi : i = (k : Int)) (hk : k < s.size) (w : World) : (Instr.index 9 (.string s) (.int .i64 i)).run Tryd.prog w = .ok (.int .u8 (s[k].toNat : Int)) w := by
  subst hi
  simp [Instr.index, run_underlying Tryd.underlying9, asIntOf, hk]

theorem rev_drop (s : ByteArray) (k : Nat) (h16 : s.size = 16) (hk : k < 16) : s.data.toList.reverse.drop k = s[15 - k] :: s.data.toList.reverse.drop (k + 1) := by
  have hl : s.data.toList.length = 16 := h16
  rw [List.drop_eq_getElem_cons (by simp [hl]; omega)]
  congr 1
  rw [List.getElem_reverse]
  have : s.data.toList.length - 1 - k = 15 - k := by omega
  simp only [this]
  rfl

theorem refBits_16 (k : Int) (h0 : 1 ≤ k) (h1 : k ≤ 27) : (refBits k).size = 16 := by
  obtain ⟨j, rfl⟩ := Int.eq_ofNat_of_zero_le (show 0 ≤ k by omega)
  have : ∀ i : Fin 28, i.val ≠ 0 → (refBits (i.val : Int)).size = 16 := by decide +kernel
  exact this ⟨j, by omega⟩ (by show j ≠ 0; omega)

end Go.Proofs.YtgadpimknobljaaDoor.Isa
