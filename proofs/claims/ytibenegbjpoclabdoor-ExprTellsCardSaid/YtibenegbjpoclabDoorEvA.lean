/- The contracts of package expr's small functions of values: number, named, ofOne, place, count, ofTwo. -/
import Derived.Test.YtibenegbjpoclabDoorPaD
import Derived.Test.YtibenegbjpoclabDoorExMoves
import Derived.Laws.BitsLemmas
namespace Go.Proofs.YtibenegbjpoclabDoor
open Go.RowKit

theorem low32 (x : Int) : (BitVec.ofInt 64 x).toNat % 2 ^ 32 = (BitVec.ofInt 32 x).toNat := by
  rw [BitVec.toNat_ofInt, BitVec.toNat_ofInt]
  omega
theorem and_low (x y : Int) : sgn (bits .and .i64 x y) = bits .and .i32 x y := by
  show sgn (IntKind.i64.wrap ((BitVec.ofInt 64 x &&& BitVec.ofInt 64 y).toNat : Nat)) = IntKind.i32.wrap ((BitVec.ofInt 32 x &&& BitVec.ofInt 32 y).toNat : Nat)
  have key : (BitVec.ofInt 32 x &&& BitVec.ofInt 32 y).toNat = (BitVec.ofInt 64 x &&& BitVec.ofInt 64 y).toNat % 2 ^ 32 := by
    rw [BitVec.toNat_and, BitVec.toNat_and, Nat.and_mod_two_pow, low32, low32]
  rw [key, wrap_i32, IntKind.wrap_i64]
  unfold sgn wrap32
  omega
theorem or_low (x y : Int) : sgn (bits .or .i64 x y) = bits .or .i32 x y := by
  show sgn (IntKind.i64.wrap ((BitVec.ofInt 64 x ||| BitVec.ofInt 64 y).toNat : Nat)) = IntKind.i32.wrap ((BitVec.ofInt 32 x ||| BitVec.ofInt 32 y).toNat : Nat)
  have key : (BitVec.ofInt 32 x ||| BitVec.ofInt 32 y).toNat = (BitVec.ofInt 64 x ||| BitVec.ofInt 64 y).toNat % 2 ^ 32 := by
    rw [BitVec.toNat_or, BitVec.toNat_or, Nat.or_mod_two_pow, low32, low32]
  rw [key, wrap_i32, IntKind.wrap_i64]
  unfold sgn wrap32
  omega
theorem and31 (n : Int) : bits .and .i64 n 31 = n % 32 := by
  have h31 : (BitVec.ofInt 64 31).toNat = 2 ^ 5 - 1 := by decide
  have key : (BitVec.ofInt 64 n &&& BitVec.ofInt 64 31).toNat = (n % ((2 ^ 64 : Nat) : Int)).toNat % 2 ^ 5 := by
    rw [BitVec.toNat_and, BitVec.toNat_ofInt, h31, Nat.and_two_pow_sub_one_eq_mod]
  show IntKind.i64.wrap ((BitVec.ofInt 64 n &&& BitVec.ofInt 64 31).toNat : Nat) = n % 32
  rw [key, IntKind.wrap_i64]
  omega

theorem number_any (n : Int) (w : World) :
    Calls Tryd.prog 21 #[.int .i64 n] w fun e w' => e = .returned (.agg #[.string ⟨#[]⟩, .int .i64 (sgn n)]) ∧ Below w.heap.size w w' := by
  go_enter Tryd.func21, Tryd.ntmps21
  go_wp2_with (go_at_call 38; refine (signed_any _ _).mono ?_; rintro e w' ⟨rfl, rfl⟩)
  exact bodyPost_ret (v := .agg #[.string ⟨#[]⟩, .int .i64 (sgn n)]) (by simp [results, Tryd.results21, go_sem]) rfl ⟨rfl, (Below.refl _ _).alloc (Nat.le_refl _) _⟩

set_option maxHeartbeats 4000000 in
theorem place_any (kind : Int) (a b : List UInt8) (w : World) :
    Calls Tryd.prog 37 #[.int .i64 kind, .string ⟨a.toArray⟩, .string ⟨b.toArray⟩] w fun e w' => e = .returned (.tuple #[.string ⟨((placeR kind a b).getD []).toArray⟩, .bool (placeR kind a b).isSome]) ∧ w = w' := by
  have go : ∀ (o : Option (List UInt8)), placeR kind a b = o → (Calls Tryd.prog 37 #[.int .i64 kind, .string ⟨a.toArray⟩, .string ⟨b.toArray⟩] w fun e w' => e = .returned (.tuple #[.string ⟨(o.getD []).toArray⟩, .bool o.isSome]) ∧ w = w') → Calls Tryd.prog 37 #[.int .i64 kind, .string ⟨a.toArray⟩, .string ⟨b.toArray⟩] w fun e w' => e = .returned (.tuple #[.string ⟨((placeR kind a b).getD []).toArray⟩, .bool (placeR kind a b).isSome]) ∧ w = w' := by
    intro o ho h
    rw [ho]
    exact h
  by_cases ha : a = []
  · by_cases hb : b = []
    · refine go (some []) (by simp [placeR, ha, hb]) ?_
      subst ha hb
      go_enter Tryd.func37, Tryd.ntmps37
      go_wp2
      go_ret2
      exact ⟨rfl, rfl⟩
    · have eb : (b == []) = false := by simpa using hb
      by_cases h6 : kind = 6
      · refine go (some b) (by simp [placeR, ha, hb, h6]) ?_
        subst ha h6
        go_enter Tryd.func37, Tryd.ntmps37
        go_wp2
        go_ret2
        exact ⟨rfl, rfl⟩
      · have e6 : (kind == 6) = false := by simpa using h6
        have hab : ¬ ([] = b) := fun e => hb e.symm
        have eab : (([] : List UInt8) == b) = false := by simpa using hab
        refine go none (by simp [placeR, ha, hb, h6, hab]) ?_
        subst ha
        by_cases h7 : kind = 7
        · subst h7
          go_enter Tryd.func37, Tryd.ntmps37
          go_wp2
          go_ret2
          exact ⟨rfl, rfl⟩
        · have e7 : (kind == 7) = false := by simpa using h7
          go_enter Tryd.func37, Tryd.ntmps37
          go_wp2
          go_ret2
          exact ⟨rfl, rfl⟩
  · have ea : (a == []) = false := by simpa using ha
    by_cases hb : b = []
    · subst hb
      by_cases h6 : kind = 6
      · refine go (some a) (by simp [placeR, ha, h6]) ?_
        subst h6
        go_enter Tryd.func37, Tryd.ntmps37
        go_wp2
        go_ret2
        exact ⟨rfl, rfl⟩
      · have e6 : (kind == 6) = false := by simpa using h6
        by_cases h7 : kind = 7
        · refine go (some a) (by simp [placeR, ha, h7]) ?_
          subst h7
          go_enter Tryd.func37, Tryd.ntmps37
          go_wp2
          go_ret2
          exact ⟨rfl, rfl⟩
        · have e7 : (kind == 7) = false := by simpa using h7
          refine go none (by simp [placeR, ha, h6, h7]) ?_
          go_enter Tryd.func37, Tryd.ntmps37
          go_wp2
          go_ret2
          exact ⟨rfl, rfl⟩
    · have eb : (b == []) = false := by simpa using hb
      by_cases h7 : kind = 7
      · by_cases hab : a = b
        · have eab : (a == b) = true := by simpa using hab
          refine go (some []) (by simp [placeR, h7, hab]) ?_
          subst h7
          go_enter Tryd.func37, Tryd.ntmps37
          go_wp2
          go_ret2
          exact ⟨rfl, rfl⟩
        · have eab : (a == b) = false := by simpa using hab
          refine go none (by simp [placeR, ha, hb, h7, hab]) ?_
          subst h7
          go_enter Tryd.func37, Tryd.ntmps37
          go_wp2
          go_ret2
          exact ⟨rfl, rfl⟩
      · have e7 : (kind == 7) = false := by simpa using h7
        refine go none (by simp [placeR, ha, hb, h7]) ?_
        by_cases h6 : kind = 6
        · subst h6
          go_enter Tryd.func37, Tryd.ntmps37
          go_wp2
          go_ret2
          exact ⟨rfl, rfl⟩
        · have e6 : (kind == 6) = false := by simpa using h6
          go_enter Tryd.func37, Tryd.ntmps37
          go_wp2
          go_ret2
          exact ⟨rfl, rfl⟩

theorem sgn_wrap (z : Int) : sgn (wrap64 z) = wrap32 z := by unfold sgn wrap32 wrap64; omega
theorem wrap32_add (a t : Int) : wrap32 (a + 4294967296 * t) = wrap32 a := by unfold wrap32; omega
theorem wrap32_mul (x c : Int) : wrap32 (x * c) = wrap32 (x % 4294967296 * c) := by
  have h : x * c = x % 4294967296 * c + 4294967296 * (x / 4294967296 * c) := by
    have := Int.emod_add_mul_ediv x 4294967296
    calc x * c = (x % 4294967296 + 4294967296 * (x / 4294967296)) * c := by rw [this]
      _ = _ := by rw [Int.add_mul, Int.mul_assoc]
  rw [h, wrap32_add]
theorem five (y : Int) : (y % 4294967296) % 32 = y % 32 := by omega

theorem count_any (kind x y : Int) (w : World) (h5 : 5 ≤ kind) (h11 : kind ≤ 11) :
    Calls Tryd.prog 39 #[.int .i64 kind, .int .i64 x, .int .i64 y] w fun e w' => (∃ n, e = .returned (.int .i64 n) ∧ sgn n = opR kind x y) ∧ w = w' := by
  have : kind = 5 ∨ kind = 6 ∨ kind = 7 ∨ kind = 8 ∨ kind = 9 ∨ kind = 10 ∨ kind = 11 := by omega
  rcases this with rfl | rfl | rfl | rfl | rfl | rfl | rfl
  · go_enter Tryd.func39, Tryd.ntmps39
    go_wp2
    go_ret
    exact ⟨⟨_, rfl, sgn_wrap _⟩, rfl⟩
  · go_enter Tryd.func39, Tryd.ntmps39
    go_wp2
    go_ret
    exact ⟨⟨_, rfl, sgn_wrap _⟩, rfl⟩
  · go_enter Tryd.func39, Tryd.ntmps39
    go_wp2
    go_ret
    exact ⟨⟨_, rfl, sgn_wrap _⟩, rfl⟩
  · have := and31 y
    have hs : ¬ y % 32 < 0 := by omega
    go_enter Tryd.func39, Tryd.ntmps39
    go_wp2
    go_ret
    refine ⟨⟨_, rfl, (sgn_wrap _).trans ?_⟩, rfl⟩
    show _ = wrap32 ((x % 4294967296) * 2 ^ ((y % 4294967296) % 32).toNat)
    rw [five, wrap32_mul]
  · have := and31 y
    have hs : ¬ y % 32 < 0 := by omega
    go_enter Tryd.func39, Tryd.ntmps39
    go_wp2
    go_ret
    refine ⟨⟨_, rfl, (sgn_wrap _).trans ?_⟩, rfl⟩
    show _ = wrap32 ((x % 4294967296) / 2 ^ ((y % 4294967296) % 32).toNat)
    rw [five]
  · go_enter Tryd.func39, Tryd.ntmps39
    go_wp2
    go_ret
    exact ⟨⟨_, rfl, and_low x y⟩, rfl⟩
  · go_enter Tryd.func39, Tryd.ntmps39
    go_wp2
    go_ret
    exact ⟨⟨_, rfl, or_low x y⟩, rfl⟩

end Go.Proofs.YtibenegbjpoclabDoor
