/- The contract of the document's own Wrong. The contract of the document's own Wrong, whole. There, and back: what Encode writes Decode reads, and the other way round: the plain mathematics. -/
import Derived.Test.YtabepbaldadmgaaDoorPut2
import Derived.Deep.DeepCutAuto
import Derived.Test.YtabepbaldadmgaaDoorPut1
namespace Go.Proofs.YtabepbaldadmgaaDoor.Isa
open Go.RowKit

theorem refBits_size (k : Int) (h0 : 0 ≤ k) (h1 : k ≤ 27) : (refBits k).size ≤ 16 := by
  obtain ⟨j, rfl⟩ := Int.eq_ofNat_of_zero_le h0
  have : ∀ i : Fin 28, (refBits (i.val : Int)).size ≤ 16 := by decide +kernel
  exact this ⟨j, by omega⟩

/-- Which registers a row's text has. -/
theorem has_regs (k : Int) (h0 : 1 ≤ k) (h1 : k ≤ 27) : hasB (refBits k) 110 = (layN (opShape k) != 0) ∧ hasB (refBits k) 109 = (layM (opShape k) != 0) ∧ (layN (opShape k) = 0 ∨ layN (opShape k) = 15) ∧ (layM (opShape k) = 0 ∨ layM (opShape k) = 15) := by
  obtain ⟨j, rfl⟩ := Int.eq_ofNat_of_zero_le (show 0 ≤ k by omega)
  have : ∀ i : Fin 28, i.val ≠ 0 → hasB (refBits (i.val : Int)) 110 = (layN (opShape (i.val : Int)) != 0) ∧ hasB (refBits (i.val : Int)) 109 = (layM (opShape (i.val : Int)) != 0) ∧ (layN (opShape (i.val : Int)) = 0 ∨ layN (opShape (i.val : Int)) = 15) ∧ (layM (opShape (i.val : Int)) = 0 ∨ layM (opShape (i.val : Int)) = 15) := by decide +kernel
  exact this ⟨j, by omega⟩ (by show j ≠ 0; omega)

/-- What plref1.Rows makes, said of a world that is a letter. -/
theorem rows_let (w : World) : Calls Tryd.prog 30 #[] w fun e w' => ∃ g, e = .returned (.map (some g)) ∧ w'.heap[g]? = some (mapOf 27) ∧ Below w.heap.size w w' ∧ g < w'.heap.size ∧ w.heap.size ≤ g := by
  refine (rows_any w).mono ?_
  rintro e w' ⟨rfl, rfl⟩
  exact ⟨w.heap.size, rfl, heap_alloc_new w _, (Below.refl _ _).alloc (Nat.le_refl _) _, by simp, Nat.le_refl _⟩

theorem look_alloc {w1 : World} {g : Nat} (hg : w1.heap[g]? = some (mapOf 27)) (hlt : g < w1.heap.size) (O : Obj) : (w1.alloc O).heap[g]? = some (mapOf 27) := by
  rw [Below.heap_alloc w1 O g hlt]; exact hg

/-- The instruction's box stays. -/
theorem keepBox {w x y : World} {a b c d : Value} (hb : Below x.heap.size x y)
    (h : w.heap.size < x.heap.size ∧ x.cell? ⟨w.heap.size, 0, none⟩ = some a ∧ x.cell? ⟨w.heap.size, 1, none⟩ = some b ∧ x.cell? ⟨w.heap.size, 2, none⟩ = some c ∧ x.cell? ⟨w.heap.size, 3, none⟩ = some d ∧ Below w.heap.size w x) :
    w.heap.size < y.heap.size ∧ y.cell? ⟨w.heap.size, 0, none⟩ = some a ∧ y.cell? ⟨w.heap.size, 1, none⟩ = some b ∧ y.cell? ⟨w.heap.size, 2, none⟩ = some c ∧ y.cell? ⟨w.heap.size, 3, none⟩ = some d ∧ Below w.heap.size w y := by
  obtain ⟨h0, h1, h2, h3, h4, h5⟩ := h
  exact ⟨Nat.lt_of_lt_of_le h0 hb.size, by rw [hb.cell h0]; exact h1, by rw [hb.cell h0]; exact h2, by rw [hb.cell h0]; exact h3, by rw [hb.cell h0]; exact h4, h5.trans (hb.mono (by omega))⟩

theorem keepSet {w x : World} {a b c d v : Value} {g i : Nat} (hg : w.heap.size < g)
    (h : w.heap.size < x.heap.size ∧ x.cell? ⟨w.heap.size, 0, none⟩ = some a ∧ x.cell? ⟨w.heap.size, 1, none⟩ = some b ∧ x.cell? ⟨w.heap.size, 2, none⟩ = some c ∧ x.cell? ⟨w.heap.size, 3, none⟩ = some d ∧ Below w.heap.size w x) :
    w.heap.size < (x.setCell ⟨g, i, none⟩ v).heap.size ∧ (x.setCell ⟨g, i, none⟩ v).cell? ⟨w.heap.size, 0, none⟩ = some a ∧ (x.setCell ⟨g, i, none⟩ v).cell? ⟨w.heap.size, 1, none⟩ = some b ∧ (x.setCell ⟨g, i, none⟩ v).cell? ⟨w.heap.size, 2, none⟩ = some c ∧ (x.setCell ⟨g, i, none⟩ v).cell? ⟨w.heap.size, 3, none⟩ = some d ∧ Below w.heap.size w (x.setCell ⟨g, i, none⟩ v) := by
  obtain ⟨h0, h1, h2, h3, h4, h5⟩ := h
  have hne : ∀ j, (⟨g, i, none⟩ : Addr) ≠ ⟨w.heap.size, j, none⟩ := fun j e => by cases e; omega
  exact ⟨by simpa using h0, by rw [World.cell?_setCell_other _ _ _ _ (hne 0)]; exact h1, by rw [World.cell?_setCell_other _ _ _ _ (hne 1)]; exact h2, by rw [World.cell?_setCell_other _ _ _ _ (hne 2)]; exact h3, by rw [World.cell?_setCell_other _ _ _ _ (hne 3)]; exact h4, h5.setCell (by show w.heap.size ≤ g; omega) _⟩

theorem startBox (w : World) (a b c d : Value) : w.heap.size < (w.alloc (.cells #[a, b, c, d] 45)).drew.heap.size ∧ (w.alloc (.cells #[a, b, c, d] 45)).drew.cell? ⟨w.heap.size, 0, none⟩ = some a ∧ (w.alloc (.cells #[a, b, c, d] 45)).drew.cell? ⟨w.heap.size, 1, none⟩ = some b ∧ (w.alloc (.cells #[a, b, c, d] 45)).drew.cell? ⟨w.heap.size, 2, none⟩ = some c ∧ (w.alloc (.cells #[a, b, c, d] 45)).drew.cell? ⟨w.heap.size, 3, none⟩ = some d ∧ Below w.heap.size w (w.alloc (.cells #[a, b, c, d] 45)).drew := by
  refine ⟨?_, ?_, ?_, ?_, ?_, ((Below.refl _ _).alloc (Nat.le_refl _) _).drew⟩ <;> simp

theorem startBox' (w : World) (a b c d : Value) : w.heap.size < (w.alloc (.cells #[a, b, c, d] 45)).heap.size ∧ (w.alloc (.cells #[a, b, c, d] 45)).cell? ⟨w.heap.size, 0, none⟩ = some a ∧ (w.alloc (.cells #[a, b, c, d] 45)).cell? ⟨w.heap.size, 1, none⟩ = some b ∧ (w.alloc (.cells #[a, b, c, d] 45)).cell? ⟨w.heap.size, 2, none⟩ = some c ∧ (w.alloc (.cells #[a, b, c, d] 45)).cell? ⟨w.heap.size, 3, none⟩ = some d ∧ Below w.heap.size w (w.alloc (.cells #[a, b, c, d] 45)) := by
  refine ⟨?_, ?_, ?_, ?_, ?_, (Below.refl _ _).alloc (Nat.le_refl _) _⟩ <;> simp

theorem keepDrew {w x : World} {a b c d : Value} (h : w.heap.size < x.heap.size ∧ x.cell? ⟨w.heap.size, 0, none⟩ = some a ∧ x.cell? ⟨w.heap.size, 1, none⟩ = some b ∧ x.cell? ⟨w.heap.size, 2, none⟩ = some c ∧ x.cell? ⟨w.heap.size, 3, none⟩ = some d ∧ Below w.heap.size w x) :
    w.heap.size < x.drew.heap.size ∧ x.drew.cell? ⟨w.heap.size, 0, none⟩ = some a ∧ x.drew.cell? ⟨w.heap.size, 1, none⟩ = some b ∧ x.drew.cell? ⟨w.heap.size, 2, none⟩ = some c ∧ x.drew.cell? ⟨w.heap.size, 3, none⟩ = some d ∧ Below w.heap.size w x.drew :=
  ⟨h.1, h.2.1, h.2.2.1, h.2.2.2.1, h.2.2.2.2.1, h.2.2.2.2.2.drew⟩

theorem set3 {x : World} {g : Nat} {a b c u0 u1 u2 : Value} (h0 : x.cell? ⟨g, 0, none⟩ = some u0) (h1 : x.cell? ⟨g, 1, none⟩ = some u1) (h2 : x.cell? ⟨g, 2, none⟩ = some u2) :
    (((x.setCell ⟨g, 0, none⟩ a).setCell ⟨g, 1, none⟩ b).setCell ⟨g, 2, none⟩ c).cell? ⟨g, 0, none⟩ = some a ∧ (((x.setCell ⟨g, 0, none⟩ a).setCell ⟨g, 1, none⟩ b).setCell ⟨g, 2, none⟩ c).cell? ⟨g, 1, none⟩ = some b ∧ (((x.setCell ⟨g, 0, none⟩ a).setCell ⟨g, 1, none⟩ b).setCell ⟨g, 2, none⟩ c).cell? ⟨g, 2, none⟩ = some c := by
  have d01 : (⟨g, 0, none⟩ : Addr) ≠ ⟨g, 1, none⟩ := by simp
  have d02 : (⟨g, 0, none⟩ : Addr) ≠ ⟨g, 2, none⟩ := by simp
  have d12 : (⟨g, 1, none⟩ : Addr) ≠ ⟨g, 2, none⟩ := by simp
  refine ⟨?_, ?_, ?_⟩
  · rw [World.cell?_setCell_other _ _ _ _ d02.symm, World.cell?_setCell_other _ _ _ _ d01.symm, World.cell?_setCell_same _ _ _ h0]
  · rw [World.cell?_setCell_other _ _ _ _ d12.symm, World.cell?_setCell_same (u := u1)]
    rw [World.cell?_setCell_other _ _ _ _ d01]; exact h1
  · rw [World.cell?_setCell_same (u := u2)]
    rw [World.cell?_setCell_other _ _ _ _ d12, World.cell?_setCell_other _ _ _ _ d02]; exact h2

/-- What is known behind 'r, ok := Rows()[i.Op]': the row lies in box g. -/
def RowIn (w : World) (op n m imm : Int) (g : Nat) (x : World) : Prop :=
  (w.heap.size < x.heap.size ∧ x.cell? ⟨w.heap.size, 0, none⟩ = some (.int .i64 op) ∧ x.cell? ⟨w.heap.size, 1, none⟩ = some (.int .i64 n) ∧ x.cell? ⟨w.heap.size, 2, none⟩ = some (.int .i64 m) ∧ x.cell? ⟨w.heap.size, 3, none⟩ = some (.int .i64 imm) ∧ Below w.heap.size w x)
    ∧ g < x.heap.size ∧ w.heap.size < g ∧ x.cell? ⟨g, 0, none⟩ = some (.string (infoName op)) ∧ x.cell? ⟨g, 1, none⟩ = some (.int .i64 (infoShape op)) ∧ x.cell? ⟨g, 2, none⟩ = some (.string (refTxt op))

theorem rowIn_new {w w1 : World} {op n m imm : Int} (hz : w.heap.size < w1.heap.size)
    (h : w.heap.size < (w1.alloc (.cells #[.string (infoName op), .int .i64 (infoShape op), .string (refTxt op)] 65)).heap.size ∧ (w1.alloc (.cells #[.string (infoName op), .int .i64 (infoShape op), .string (refTxt op)] 65)).cell? ⟨w.heap.size, 0, none⟩ = some (.int .i64 op) ∧ (w1.alloc (.cells #[.string (infoName op), .int .i64 (infoShape op), .string (refTxt op)] 65)).cell? ⟨w.heap.size, 1, none⟩ = some (.int .i64 n) ∧ (w1.alloc (.cells #[.string (infoName op), .int .i64 (infoShape op), .string (refTxt op)] 65)).cell? ⟨w.heap.size, 2, none⟩ = some (.int .i64 m) ∧ (w1.alloc (.cells #[.string (infoName op), .int .i64 (infoShape op), .string (refTxt op)] 65)).cell? ⟨w.heap.size, 3, none⟩ = some (.int .i64 imm) ∧ Below w.heap.size w (w1.alloc (.cells #[.string (infoName op), .int .i64 (infoShape op), .string (refTxt op)] 65))) :
    RowIn w op n m imm w1.heap.size (w1.alloc (.cells #[.string (infoName op), .int .i64 (infoShape op), .string (refTxt op)] 65)) :=
  ⟨h, by simp, hz, by simp, by simp, by simp⟩

end Go.Proofs.YtabepbaldadmgaaDoor.Isa

namespace Go.Proofs.YtabepbaldadmgaaDoor.Isa
open Go.RowKit

theorem wrongI_3 {op n m imm : Int} (hk : knownB op = true) (h : ¬ (0 ≤ n ∧ n ≤ layN (opShape op) ∧ 0 ≤ m ∧ m ≤ layM (opShape op) ∧ layLow (opShape op) ≤ imm ∧ imm ≤ layHigh (opShape op))) : wrongI op n m imm = 3 := by
  unfold wrongI
  rw [if_pos hk, if_neg]
  simp only [withinB, decide_eq_true_eq]
  intro h'
  exact h (by omega)

theorem wrongI_0 {op n m imm : Int} (hk : knownB op = true) (h : 0 ≤ n ∧ n ≤ layN (opShape op) ∧ 0 ≤ m ∧ m ≤ layM (opShape op) ∧ layLow (opShape op) ≤ imm ∧ imm ≤ layHigh (opShape op)) : wrongI op n m imm = 0 := by
  unfold wrongI
  rw [if_pos hk, if_pos]
  simp only [withinB, decide_eq_true_eq]
  omega

end Go.Proofs.YtabepbaldadmgaaDoor.Isa

namespace Go.Proofs.YtabepbaldadmgaaDoor.Isa
open Go.RowKit

theorem ofInt_nat (a : Nat) : BitVec.ofInt IntKind.i64.bits (a : Int) = BitVec.ofNat 64 a := rfl

theorem wrap_small (a : Nat) (h : a < 9223372036854775808) : IntKind.i64.wrap (a : Int) = a := by
  rw [IntKind.wrap_i64]; omega

theorem and_nat (a b : Nat) (ha : a < 9223372036854775808) (hb : b < 9223372036854775808) : bits .and .i64 (a : Int) (b : Int) = ((a &&& b : Nat) : Int) := by
  show IntKind.i64.wrap ((BitVec.ofInt IntKind.i64.bits (a : Int) &&& BitVec.ofInt IntKind.i64.bits (b : Int)).toNat : Int) = _
  have : (BitVec.ofInt IntKind.i64.bits (a : Int) &&& BitVec.ofInt IntKind.i64.bits (b : Int)).toNat = a &&& b := by
    rw [ofInt_nat, ofInt_nat]
    show (BitVec.ofNat 64 a &&& BitVec.ofNat 64 b).toNat = _
    rw [BitVec.toNat_and, BitVec.toNat_ofNat, BitVec.toNat_ofNat, Nat.mod_eq_of_lt (by omega), Nat.mod_eq_of_lt (by omega)]
  rw [this]
  exact wrap_small _ (Nat.lt_of_le_of_lt Nat.and_le_left ha)

theorem or_nat (a b : Nat) (ha : a < 4611686018427387904) (hb : b < 4611686018427387904) : bits .or .i64 (a : Int) (b : Int) = ((a ||| b : Nat) : Int) := by
  show IntKind.i64.wrap ((BitVec.ofInt IntKind.i64.bits (a : Int) ||| BitVec.ofInt IntKind.i64.bits (b : Int)).toNat : Int) = _
  have : (BitVec.ofInt IntKind.i64.bits (a : Int) ||| BitVec.ofInt IntKind.i64.bits (b : Int)).toNat = a ||| b := by
    rw [ofInt_nat, ofInt_nat]
    show (BitVec.ofNat 64 a ||| BitVec.ofNat 64 b).toNat = _
    rw [BitVec.toNat_or, BitVec.toNat_ofNat, BitVec.toNat_ofNat, Nat.mod_eq_of_lt (by omega), Nat.mod_eq_of_lt (by omega)]
  rw [this]
  exact wrap_small _ (Nat.lt_of_lt_of_le (Nat.or_lt_two_pow (n := 62) ha hb) (by decide))

theorem andNot_nat (a b : Nat) (ha : a < 9223372036854775808) (hb : b < 9223372036854775808) : bits .andNot .i64 (a : Int) (b : Int) = ((a &&& (18446744073709551615 - b) : Nat) : Int) := by
  show IntKind.i64.wrap ((BitVec.ofInt IntKind.i64.bits (a : Int) &&& ~~~ BitVec.ofInt IntKind.i64.bits (b : Int)).toNat : Int) = _
  have : (BitVec.ofInt IntKind.i64.bits (a : Int) &&& ~~~ BitVec.ofInt IntKind.i64.bits (b : Int)).toNat = a &&& (18446744073709551615 - b) := by
    rw [ofInt_nat, ofInt_nat]
    show (BitVec.ofNat 64 a &&& ~~~ BitVec.ofNat 64 b).toNat = _
    rw [BitVec.toNat_and, BitVec.toNat_not, BitVec.toNat_ofNat, BitVec.toNat_ofNat, Nat.mod_eq_of_lt (by omega), Nat.mod_eq_of_lt (by omega)]
  rw [this]
  exact wrap_small _ (Nat.lt_of_le_of_lt Nat.and_le_left ha)

/-- Which op half word x is: 0, if none. -/
def decN (x : Nat) : Nat := bif Nat.beq (Nat.land x 18446744073709551615) 9 then 1 else bif Nat.beq (Nat.land x 18446744073709551615) 11 then 2 else bif Nat.beq (Nat.land x 18446744073709547520) 57344 then 3 else bif Nat.beq (Nat.land x 18446744073709547520) 28672 then 4 else bif Nat.beq (Nat.land x 18446744073709547535) 24579 then 5 else bif Nat.beq (Nat.land x 18446744073709547535) 12300 then 6 else bif Nat.beq (Nat.land x 18446744073709547535) 12296 then 7 else bif Nat.beq (Nat.land x 18446744073709547535) 8201 then 8 else bif Nat.beq (Nat.land x 18446744073709547535) 8203 then 9 else bif Nat.beq (Nat.land x 18446744073709547535) 8202 then 10 else bif Nat.beq (Nat.land x 18446744073709547535) 8200 then 11 else bif Nat.beq (Nat.land x 18446744073709547535) 12288 then 12 else bif Nat.beq (Nat.land x 18446744073709547535) 12295 then 13 else bif Nat.beq (Nat.land x 18446744073709547775) 16384 then 14 else bif Nat.beq (Nat.land x 18446744073709547775) 16385 then 15 else bif Nat.beq (Nat.land x 18446744073709547775) 16400 then 16 else bif Nat.beq (Nat.land x 18446744073709551360) 35072 then 17 else bif Nat.beq (Nat.land x 18446744073709551360) 35584 then 18 else bif Nat.beq (Nat.land x 18446744073709547520) 40960 then 19 else bif Nat.beq (Nat.land x 18446744073709547520) 45056 then 20 else bif Nat.beq (Nat.land x 18446744073709547775) 16427 then 21 else bif Nat.beq (Nat.land x 18446744073709547775) 16395 then 22 else bif Nat.beq (Nat.land x 18446744073709547520) 36864 then 23 else bif Nat.beq (Nat.land x 18446744073709547520) 53248 then 24 else bif Nat.beq (Nat.land x 18446744073709547535) 8194 then 25 else bif Nat.beq (Nat.land x 18446744073709547535) 24578 then 26 else bif Nat.beq (Nat.land x 18446744073709551360) 49920 then 27 else 0

/-- f holds of all numbers from b on, as many as 2 to the d. -/
def allB (f : Nat → Bool) : Nat → Nat → Bool
  | 0, b => f b
  | d + 1, b => allB f d b && allB f d (b + 2 ^ d)

theorem allB_spec (f : Nat → Bool) : ∀ d b, allB f d b = true → ∀ x, b ≤ x → x < b + 2 ^ d → f x = true := by
  intro d
  induction d with
  | zero => intro b h x h1 h2; simp at h2; have : x = b := by omega
            subst this; exact h
  | succ d ih =>
    intro b h x h1 h2
    simp only [allB, Bool.and_eq_true] at h
    rw [Nat.pow_succ] at h2
    by_cases hx : x < b + 2 ^ d
    · exact ih b h.1 x h1 hx
    · exact ih _ h.2 x (by omega) (by omega)

/-- How many bits the registers and the number of op k have. -/
def wideN (k : Nat) : Nat := [0, 0, 0, 4, 4, 4, 4, 4, 4, 4, 4, 4, 4, 4, 4, 4, 4, 0, 0, 0, 0, 4, 4, 4, 4, 4, 4, 0].getD k 0
def wideM (k : Nat) : Nat := [0, 0, 0, 0, 0, 4, 4, 4, 4, 4, 4, 4, 4, 4, 0, 0, 0, 0, 0, 0, 0, 0, 0, 0, 0, 4, 4, 0].getD k 0
def wideI (k : Nat) : Nat := [0, 0, 0, 8, 8, 0, 0, 0, 0, 0, 0, 0, 0, 0, 0, 0, 0, 8, 8, 12, 12, 0, 0, 8, 8, 0, 0, 8].getD k 0

def encN (k n m i : Nat) : Nat := Nat.lor (Nat.lor (Nat.lor (opBits k).toNat (n * 256)) (m * 16)) i

def chk1 (k : Nat) : Bool :=
  allB (fun n => allB (fun m => allB (fun i => Nat.beq (decN (encN k n m i)) k && Nat.beq (Nat.land (encN k n m i / 256) (2 ^ wideN k - 1)) n && Nat.beq (Nat.land (encN k n m i / 16) (2 ^ wideM k - 1)) m && Nat.beq (Nat.land (encN k n m i) (2 ^ wideI k - 1)) i && Nat.ble (encN k n m i) 65535) (wideI k) 0) (wideM k) 0) (wideN k) 0

def chk2 (x : Nat) : Bool :=
  Nat.beq (decN x) 0 || (Nat.beq (encN (decN x) (Nat.land (x / 256) (2 ^ wideN (decN x) - 1)) (Nat.land (x / 16) (2 ^ wideM (decN x) - 1)) (Nat.land x (2 ^ wideI (decN x) - 1))) x && Nat.ble (decN x) 27)

set_option maxRecDepth 100000 in
theorem chk1_all : ((List.range 28).all fun k => Nat.beq k 0 || chk1 k) = true := by decide +kernel

set_option maxRecDepth 100000 in
theorem chk2_all : allB chk2 16 0 = true := by decide +kernel

end Go.Proofs.YtabepbaldadmgaaDoor.Isa
