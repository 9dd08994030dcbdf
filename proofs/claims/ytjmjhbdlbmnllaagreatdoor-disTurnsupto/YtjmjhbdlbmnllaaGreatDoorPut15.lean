/- The contracts of package expr's small functions of values: number, named, ofOne, place, count, ofTwo. Two small laws that stage 3's parser texts hold, for a seat without the parser (in the place of PaM). The contracts of package expr's ofTwo, ofOne, named and whole. -/
import Derived.Test.YtjmjhbdlbmnllaaGreatDoorPut14
import Derived.Test.YtjmjhbdlbmnllaaGreatDoorPut13
import Derived.Laws.BitsLemmas
namespace Go.Proofs.YtjmjhbdlbmnllaaGreatDoor.Xp
open Go.RowKit

theorem low32 (x : Int) : (BitVec.ofInt 64 x).toNat % 2 ^ 32 = (BitVec.ofInt 32 x).toNat := by
  rw [BitVec.toNat_ofInt, BitVec.toNat_ofInt]
  omega
theorem and_low (x y : Int) : sgn (bits .and .i64 x y) = bits .and .i32 x y := by
  show sgn (IntKind.i64.wrap ((BitVec.ofInt 64 x &&& BitVec.ofInt 64 y).toNat : Nat)) = IntKind.i32.wrap ((BitVec.ofInt 32 x &&& BitVec.ofInt 32 y).toNat : Nat)
  have key : (BitVec.ofInt 32 x &&& BitVec.ofInt 32 y).toNat = (BitVec.ofInt 64 x &&& BitVec.ofInt 64 y).toNat % 2 ^ 32 := by
    rw [BitVec.toNat_and, BitVec.toNat_and, Nat.and_mod_two_pow, low32, low32]
  rw [key, wrap_i32, IntKind.wrap_i64]
  unfold sgn wrap32
  omega
theorem or_low (x y : Int) : sgn (bits .or .i64 x y) = bits .or .i32 x y := by
  show sgn (IntKind.i64.wrap ((BitVec.ofInt 64 x ||| BitVec.ofInt 64 y).toNat : Nat)) = IntKind.i32.wrap ((BitVec.ofInt 32 x ||| BitVec.ofInt 32 y).toNat : Nat)
  have key : (BitVec.ofInt 32 x ||| BitVec.ofInt 32 y).toNat = (BitVec.ofInt 64 x ||| BitVec.ofInt 64 y).toNat % 2 ^ 32 := by
    rw [BitVec.toNat_or, BitVec.toNat_or, Nat.or_mod_two_pow, low32, low32]
  rw [key, wrap_i32, IntKind.wrap_i64]
  unfold sgn wrap32
  omega
theorem and31 (n : Int) : bits .and .i64 n 31 = n % 32 := by
  have h31 : (BitVec.ofInt 64 31).toNat = 2 ^ 5 - 1 := by decide
  have key : (BitVec.ofInt 64 n &&& BitVec.ofInt 64 31).toNat = (n % ((2 ^ 64 : Nat) : Int)).toNat % 2 ^ 5 := by
    rw [BitVec.toNat_and, BitVec.toNat_ofInt, h31, Nat.and_two_pow_sub_one_eq_mod]
  show IntKind.i64.wrap ((BitVec.ofInt 64 n &&& BitVec.ofInt 64 31).toNat : Nat) = n % 32
  rw [key, IntKind.wrap_i64]
  omega

theorem number_any (n : Int) (w : World) :
    Calls Tryz.prog 243 #[.int .i64 n] w fun e w' => e = .returned (.agg #[.string ⟨#[]⟩, .int .i64 (sgn n)]) ∧ Below w.heap.size w w' := by
  go_enter Tryz.func243, Tryz.ntmps243
  go_wp2_with (go_at_call 107; refine (signed_any _ _).mono ?_; rintro e w' ⟨rfl, rfl⟩)
  exact bodyPost_ret (v := .agg #[.string ⟨#[]⟩, .int .i64 (sgn n)]) (by simp [results, Tryz.results243, go_sem]) rfl ⟨rfl, (Below.refl _ _).alloc (Nat.le_refl _) _⟩

set_option maxHeartbeats 4000000 in
theorem place_any (kind : Int) (a b : List UInt8) (w : World) :
    Calls Tryz.prog 249 #[.int .i64 kind, .string ⟨a.toArray⟩, .string ⟨b.toArray⟩] w fun e w' => e = .returned (.tuple #[.string ⟨((placeR kind a b).getD []).toArray⟩, .bool (placeR kind a b).isSome]) ∧ w = w' := by
  have go : ∀ (o : Option (List UInt8)), placeR kind a b = o → (Calls Tryz.prog 249 #[.int .i64 kind, .string ⟨a.toArray⟩, .string ⟨b.toArray⟩] w fun e w' => e = .returned (.tuple #[.string ⟨(o.getD []).toArray⟩, .bool o.isSome]) ∧ w = w') → Calls Tryz.prog 249 #[.int .i64 kind, .string ⟨a.toArray⟩, .string ⟨b.toArray⟩] w fun e w' => e = .returned (.tuple #[.string ⟨((placeR kind a b).getD []).toArray⟩, .bool (placeR kind a b).isSome]) ∧ w = w' := by
    intro o ho h
    rw [ho]
    exact h
  by_cases ha : a = []
  · by_cases hb : b = []
    · refine go (some []) (by simp [placeR, ha, hb]) ?_
      subst ha hb
      go_enter Tryz.func249, Tryz.ntmps249
      go_wp2
      go_ret2
      exact ⟨rfl, rfl⟩
    · have eb : (b == []) = false := by simpa using hb
      by_cases h6 : kind = 6
      · refine go (some b) (by simp [placeR, ha, hb, h6]) ?_
        subst ha h6
        go_enter Tryz.func249, Tryz.ntmps249
        go_wp2
        go_ret2
        exact ⟨rfl, rfl⟩
      · have e6 : (kind == 6) = false := by simpa using h6
        have hab : ¬ ([] = b) := fun e => hb e.symm
        have eab : (([] : List UInt8) == b) = false := by simpa using hab
        refine go none (by simp [placeR, ha, hb, h6, hab]) ?_
        subst ha
        by_cases h7 : kind = 7
        · subst h7
          go_enter Tryz.func249, Tryz.ntmps249
          go_wp2
          go_ret2
          exact ⟨rfl, rfl⟩
        · have e7 : (kind == 7) = false := by simpa using h7
          go_enter Tryz.func249, Tryz.ntmps249
          go_wp2
          go_ret2
          exact ⟨rfl, rfl⟩
  · have ea : (a == []) = false := by simpa using ha
    by_cases hb : b = []
    · subst hb
      by_cases h6 : kind = 6
      · refine go (some a) (by simp [placeR, ha, h6]) ?_
        subst h6
        go_enter Tryz.func249, Tryz.ntmps249
        go_wp2
        go_ret2
        exact ⟨rfl, rfl⟩
      · have e6 : (kind == 6) = false := by simpa using h6
        by_cases h7 : kind = 7
        · refine go (some a) (by simp [placeR, ha, h7]) ?_
          subst h7
          go_enter Tryz.func249, Tryz.ntmps249
          go_wp2
          go_ret2
          exact ⟨rfl, rfl⟩
        · have e7 : (kind == 7) = false := by simpa using h7
          refine go none (by simp [placeR, ha, h6, h7]) ?_
          go_enter Tryz.func249, Tryz.ntmps249
          go_wp2
          go_ret2
          exact ⟨rfl, rfl⟩
    · have eb : (b == []) = false := by simpa using hb
      by_cases h7 : kind = 7
      · by_cases hab : a = b
        · have eab : (a == b) = true := by simpa using hab
          refine go (some []) (by simp [placeR, h7, hab]) ?_
          subst h7
          go_enter Tryz.func249, Tryz.ntmps249
          go_wp2
          go_ret2
          exact ⟨rfl, rfl⟩
        · have eab : (a == b) = false := by simpa using hab
          refine go none (by simp [placeR, ha, hb, h7, hab]) ?_
          subst h7
          go_enter Tryz.func249, Tryz.ntmps249
          go_wp2
          go_ret2
          exact ⟨rfl, rfl⟩
      · have e7 : (kind == 7) = false := by simpa using h7
        refine go none (by simp [placeR, ha, hb, h7]) ?_
        by_cases h6 : kind = 6
        · subst h6
          go_enter Tryz.func249, Tryz.ntmps249
          go_wp2
          go_ret2
          exact ⟨rfl, rfl⟩
        · have e6 : (kind == 6) = false := by simpa using h6
          go_enter Tryz.func249, Tryz.ntmps249
          go_wp2
          go_ret2
          exact ⟨rfl, rfl⟩

theorem sgn_wrap (z : Int) : sgn (wrap64 z) = wrap32 z := by unfold sgn wrap32 wrap64; omega
theorem wrap32_add (a t : Int) : wrap32 (a + 4294967296 * t) = wrap32 a := by unfold wrap32; omega
theorem wrap32_mul (x c : Int) : wrap32 (x * c) = wrap32 (x % 4294967296 * c) := by
  have h : x * c = x % 4294967296 * c + 4294967296 * (x / 4294967296 * c) := by
    have := Int.emod_add_mul_ediv x 4294967296
    calc x * c = (x % 4294967296 + 4294967296 * (x / 4294967296)) * c := by rw [this]
      _ = _ := by rw [Int.add_mul, Int.mul_assoc]
  rw [h, wrap32_add]
theorem five (y : Int) : (y % 4294967296) % 32 = y % 32 := by omega

theorem count_any (kind x y : Int) (w : World) (h5 : 5 ≤ kind) (h11 : kind ≤ 11) :
    Calls Tryz.prog 250 #[.int .i64 kind, .int .i64 x, .int .i64 y] w fun e w' => (∃ n, e = .returned (.int .i64 n) ∧ sgn n = opR kind x y) ∧ w = w' := by
  have : kind = 5 ∨ kind = 6 ∨ kind = 7 ∨ kind = 8 ∨ kind = 9 ∨ kind = 10 ∨ kind = 11 := by omega
  rcases this with rfl | rfl | rfl | rfl | rfl | rfl | rfl
  · go_enter Tryz.func250, Tryz.ntmps250
    go_wp2
    go_ret
    exact ⟨⟨_, rfl, sgn_wrap _⟩, rfl⟩
  · go_enter Tryz.func250, Tryz.ntmps250
    go_wp2
    go_ret
    exact ⟨⟨_, rfl, sgn_wrap _⟩, rfl⟩
  · go_enter Tryz.func250, Tryz.ntmps250
    go_wp2
    go_ret
    exact ⟨⟨_, rfl, sgn_wrap _⟩, rfl⟩
  · have := and31 y
    have hs : ¬ y % 32 < 0 := by omega
    go_enter Tryz.func250, Tryz.ntmps250
    go_wp2
    go_ret
    refine ⟨⟨_, rfl, (sgn_wrap _).trans ?_⟩, rfl⟩
    show _ = wrap32 ((x % 4294967296) * 2 ^ ((y % 4294967296) % 32).toNat)
    rw [five, wrap32_mul]
  · have := and31 y
    have hs : ¬ y % 32 < 0 := by omega
    go_enter Tryz.func250, Tryz.ntmps250
    go_wp2
    go_ret
    refine ⟨⟨_, rfl, (sgn_wrap _).trans ?_⟩, rfl⟩
    show _ = wrap32 ((x % 4294967296) / 2 ^ ((y % 4294967296) % 32).toNat)
    rw [five]
  · go_enter Tryz.func250, Tryz.ntmps250
    go_wp2
    go_ret
    exact ⟨⟨_, rfl, and_low x y⟩, rfl⟩
  · go_enter Tryz.func250, Tryz.ntmps250
    go_wp2
    go_ret
    exact ⟨⟨_, rfl, or_low x y⟩, rfl⟩

end Go.Proofs.YtjmjhbdlbmnllaaGreatDoor.Xp

namespace Go.Proofs.YtjmjhbdlbmnllaaGreatDoor.Xp
open Go.RowKit
theorem new_at {w : World} {n : Nat} (o : Obj) (h : w.heap.size = n) : (w.alloc o).heap[n]? = some o := h ▸ heap_alloc_new w o
theorem cell_at {w : World} {n o : Nat} {cs : Array Value} {t : TypeId} {v : Value} (h : w.heap.size = n) (hv : cs[o]? = some v) : (w.alloc (.cells cs t)).cell? ⟨n, o, none⟩ = some v := by
  simp [World.cell?, new_at _ h, hv]
end Go.Proofs.YtjmjhbdlbmnllaaGreatDoor.Xp

namespace Go.Proofs.YtjmjhbdlbmnllaaGreatDoor.Xp
open Go.RowKit

set_option maxHeartbeats 1000000 in
theorem ofTwo_any (kind : Int) (a b : Va) (w : World) (h5 : 5 ≤ kind) (h11 : kind ≤ 11) :
    Calls Tryz.prog 240 #[.int .i64 kind, .agg #[.string ⟨a.name.toArray⟩, .int .i64 a.n], .agg #[.string ⟨b.name.toArray⟩, .int .i64 b.n]] w fun e w' =>
      e = .returned (evalV (match placeR kind a.name b.name with | some p => .ok ⟨p, opR kind a.n b.n⟩ | none => .error 8)) ∧ Below w.heap.size w w' := by
  cases hp : placeR kind a.name b.name with
  | none =>
    have hpl := place_any kind a.name b.name
    rw [hp] at hpl
    simp only [Option.getD_none, Option.isSome_none] at hpl
    go_enter Tryz.func240, Tryz.ntmps240
    go_wp2_with (go_at_call 249; refine (hpl _).mono ?_; rintro e w' ⟨rfl, rfl⟩)
    exact bodyPost_ret (v := .tuple #[.agg #[.string ⟨#[]⟩, .int .i64 0], .int .i64 8]) (by simp [results, Tryz.results240, go_sem]) rfl ⟨rfl, (((Below.refl _ _).alloc (Nat.le_refl _) _).alloc (by simp) _).alloc (by simp; omega) _⟩
  | some p =>
    have hpl := place_any kind a.name b.name
    rw [hp] at hpl
    simp only [Option.getD_some, Option.isSome_some] at hpl
    go_enter Tryz.func240, Tryz.ntmps240
    go_wp2_with (go_at_call 249; refine (hpl _).mono ?_; rintro e w' ⟨rfl, rfl⟩)
    refine (count_any kind a.n b.n _ h5 h11).mono ?_
    rintro e w' ⟨⟨n, rfl, hn⟩, rfl⟩
    go_wp2_with (go_at_call 107; refine (signed_any _ _).mono ?_; rintro e w' ⟨rfl, rfl⟩; simp only [hn])
    exact bodyPost_ret (v := .tuple #[.agg #[.string ⟨p.toArray⟩, .int .i64 (opR kind a.n b.n)], .int .i64 0]) (by simp [results, Tryz.results240, go_sem]) rfl ⟨rfl, (((Below.refl _ _).alloc (Nat.le_refl _) _).alloc (by simp) _).alloc (by simp; omega) _⟩

theorem xor_neg (n : Int) : sgn (bits .xor .i64 (-1) n) = sgn (-n - 1) := by
  show sgn (IntKind.i64.wrap ((BitVec.ofInt 64 (-1) ^^^ BitVec.ofInt 64 n).toNat : Nat)) = _
  have h1 : BitVec.ofInt 64 (-1) = BitVec.allOnes 64 := by decide
  have key : (BitVec.ofInt 64 (-1) ^^^ BitVec.ofInt 64 n).toNat = 2 ^ 64 - 1 - (n % ((2 ^ 64 : Nat) : Int)).toNat := by
    rw [h1, BitVec.allOnes_xor, BitVec.toNat_not, BitVec.toNat_ofInt]
  rw [key, IntKind.wrap_i64]
  unfold sgn wrap32
  omega

/-- A variable of two cells. -/
def Var2 (w : World) (R : Nat) (a b : Value) : Prop := (w.cell? ⟨R, 0, none⟩ = some a ∧ w.cell? ⟨R, 1, none⟩ = some b) ∧ w.frozen? ⟨R, 0, none⟩ = false ∧ w.frozen? ⟨R, 1, none⟩ = false
theorem var2_of {w : World} {R : Nat} {a b : Value} {t : TypeId} (h : w.heap[R]? = some (.cells #[a, b] t (0, 0))) : Var2 w R a b := by
  refine ⟨⟨?_, ?_⟩, ?_, ?_⟩ <;> simp [World.cell?, World.frozen?, h]
theorem Var2.keep {w w' : World} {R : Nat} {a b : Value} (h : Var2 w R a b) (hb : w'.heap[R]? = w.heap[R]?) : Var2 w' R a b := by
  obtain ⟨⟨h0, h1⟩, f0, f1⟩ := h
  refine ⟨⟨?_, ?_⟩, ?_, ?_⟩
  · rw [World.cell?_of_block (w := w) hb]; exact h0
  · rw [World.cell?_of_block (w := w) hb]; exact h1
  · rw [World.frozen?_of_block (w := w) hb]; exact f0
  · rw [World.frozen?_of_block (w := w) hb]; exact f1
theorem bput2 {B : Nat} {w w' : World} {R : Nat} {a b : Value} (h : Below B w w') (hR : B ≤ R) : Below B w ((w'.setCell ⟨R, 0, none⟩ a).setCell ⟨R, 1, none⟩ b) := (h.setCell hR a).setCell hR b

theorem neg_sgn (n : Int) : sgn (wrap64 (-n)) = sgn (-n) := sgn_wrap _
set_option maxHeartbeats 1000000 in
theorem ofOne_any (kind : Int) (a : Va) (w : World) (hk : kind = 3 ∨ kind = 4) :
    Calls Tryz.prog 241 #[.int .i64 kind, .agg #[.string ⟨a.name.toArray⟩, .int .i64 a.n]] w fun e w' =>
      e = .returned (evalV (if a.name = [] then .ok ⟨[], sgn (if kind = 4 then -a.n - 1 else -a.n)⟩ else .error 8)) ∧ Below w.heap.size w w' := by
  by_cases ha : a.name = []
  · rw [if_pos ha]
    obtain ⟨nm, n⟩ := a
    simp only at ha ⊢
    subst ha
    rcases hk with rfl | rfl
    · rw [if_neg (by decide)]
      go_enter Tryz.func241, Tryz.ntmps241
      go_wp2_with fail
      refine (number_any _ _).mono ?_
      rintro e w1 ⟨rfl, hb1⟩
      have HB1 : Hid (Below w.heap.size w w1) := (((Below.refl _ _).alloc (Nat.le_refl _) _).alloc (by simp) _).trans (hb1.mono (by simp; omega))
      obtain ⟨⟨x0, x1⟩, f0, f1⟩ := (var2_of (new_at (w := w.alloc (.cells #[.string ⟨#[]⟩, .int .i64 n] 143)) (n := w.heap.size + 1) (.cells #[.string ⟨#[]⟩, .int .i64 0] 143) (by simp))).keep (hb1.block _ (by simp))
      clear hb1
      rw [neg_sgn]
      go_wp2
      exact bodyPost_ret (v := .tuple #[.agg #[.string ⟨#[]⟩, .int .i64 (sgn (-n))], .int .i64 0]) (by simp [results, Tryz.results241, go_sem, x0, x1]) rfl ⟨rfl, bput2 HB1.out (Nat.le_succ _)⟩
    · rw [if_pos rfl]
      have hsg : IntKind.i64.signed = true := rfl
      go_enter Tryz.func241, Tryz.ntmps241
      go_wp2_with fail
      refine (number_any _ _).mono ?_
      rintro e w1 ⟨rfl, hb1⟩
      have HB1 : Hid (Below w.heap.size w w1) := (((Below.refl _ _).alloc (Nat.le_refl _) _).alloc (by simp) _).trans (hb1.mono (by simp; omega))
      obtain ⟨⟨x0, x1⟩, f0, f1⟩ := (var2_of (new_at (w := w.alloc (.cells #[.string ⟨#[]⟩, .int .i64 n] 143)) (n := w.heap.size + 1) (.cells #[.string ⟨#[]⟩, .int .i64 0] 143) (by simp))).keep (hb1.block _ (by simp))
      clear hb1
      rw [xor_neg]
      go_wp2
      exact bodyPost_ret (v := .tuple #[.agg #[.string ⟨#[]⟩, .int .i64 (sgn (-n - 1))], .int .i64 0]) (by simp [results, Tryz.results241, go_sem, x0, x1]) rfl ⟨rfl, bput2 HB1.out (Nat.le_succ _)⟩
  · rw [if_neg ha]
    have ea : (a.name == []) = false := by simpa using ha
    go_enter Tryz.func241, Tryz.ntmps241
    go_wp2
    exact bodyPost_ret (v := .tuple #[.agg #[.string ⟨#[]⟩, .int .i64 0], .int .i64 8]) (by simp [results, Tryz.results241, go_sem]) rfl ⟨rfl, ((Below.refl _ _).alloc (Nat.le_refl _) _).alloc (by simp) _⟩

set_option maxHeartbeats 1000000 in
theorem whole_any (kind n : Int) (nm : List UInt8) (ad : Option Addr) (len cap : Nat) (w : World) (hL : KLaid w) :
    Calls Tryz.prog 239 #[.agg #[.int .i64 kind, .int .i64 n, .string ⟨nm.toArray⟩, .slice ad len cap]] w fun e w' =>
      e = .returned (.bool (decide (1 ≤ kind ∧ kind ≤ 11 ∧ (len : Int) = kKids kind))) ∧ Below w.heap.size w w' := by
  have hz := hL.sz
  by_cases h1 : 1 ≤ kind
  · by_cases h11 : kind ≤ 11
    · have hk := hL.k0 kind (by omega) h11
      have e1 : decide (1 ≤ kind) = true := by simpa using h1
      have e2 : decide (kind ≤ 11) = true := by simpa using h11
      have hix : 0 ≤ kind ∧ kind < 12 := by omega
      go_enter Tryz.func239, Tryz.ntmps239
      go_wp2
      go_quiet (fail)
      go_wp2
      go_ret
      exact ⟨ret_bool (Bool.eq_iff_iff.2 (by simp [h1, h11])), ((Below.refl _ _).alloc (Nat.le_refl _) _).trans (Go.Joins.below_draws _ _ nq)⟩
    · have e1 : decide (1 ≤ kind) = true := by simpa using h1
      have e2 : decide (kind ≤ 11) = false := by simpa using h11
      go_enter Tryz.func239, Tryz.ntmps239
      go_wp2
      go_quiet (fail)
      go_wp2
      go_ret
      exact ⟨ret_bool (by simp; omega), ((Below.refl _ _).alloc (Nat.le_refl _) _).trans (Go.Joins.below_draws _ _ nq)⟩
  · have e1 : decide (1 ≤ kind) = false := by simpa using h1
    go_enter Tryz.func239, Tryz.ntmps239
    go_wp2
    go_quiet (fail)
    go_wp2
    go_ret
    exact ⟨ret_bool (by simp; omega), ((Below.refl _ _).alloc (Nat.le_refl _) _).trans (Go.Joins.below_draws _ _ nq)⟩

theorem isName_any (nm q : List UInt8) (qn : Int) (A : Nat) (w : World) (hA : w.cell? ⟨A, 0, none⟩ = some (.string ⟨nm.toArray⟩)) :
    Calls Tryz.prog 251 #[.agg #[.string ⟨q.toArray⟩, .int .i64 qn], .pointer (some ⟨A, 0, none⟩)] w fun e w' => e = .returned (.bool (decide (q = nm))) ∧ Below w.heap.size w w' := by
  have hl : A < w.heap.size := World.block_lt_of_cell? w _ hA
  go_enter Tryz.func251, Tryz.ntmps251
  go_wp2
  go_ret
  exact ⟨ret_bool (Bool.eq_iff_iff.2 (by simp)), (Below.refl _ _).alloc (Nat.le_refl _) _⟩

/-- Where a name is, from k on; -1: nowhere. -/
def idxFrom (nm : List UInt8) : List (List UInt8 × Int) → Nat → Int
  | [], _ => -1
  | x :: r, k => if x.1 = nm then (k : Int) else idxFrom nm r (k + 1)

theorem idx_look (nm : List UInt8) : ∀ (l : List (List UInt8 × Int)) (k : Nat), (idxFrom nm l k < 0 ∧ lookE nm l = none) ∨ (∃ i : Nat, ∃ h : i < l.length, idxFrom nm l k = ((k + i : Nat) : Int) ∧ lookE nm l = some l[i].2)
  | [], _ => Or.inl ⟨by simp [idxFrom], rfl⟩
  | x :: r, k => by
    by_cases h : x.1 = nm
    · exact Or.inr ⟨0, by simp, by simp [idxFrom, h], by simp [lookE, h]⟩
    · rcases idx_look nm r (k + 1) with ⟨h1, h2⟩ | ⟨i, hi, h1, h2⟩
      · exact Or.inl ⟨by rw [idxFrom, if_neg h]; exact h1, by rw [lookE, if_neg h]; exact h2⟩
      · exact Or.inr ⟨i + 1, by simpa using hi, by rw [idxFrom, if_neg h, h1]; omega, by rw [lookE, if_neg h]; exact h2⟩

set_option maxHeartbeats 1000000 in
theorem index_any (nm : List UInt8) (qv : Value) (l : List (List UInt8 × Int)) (A : Nat) (w : World) (hA : w.cell? ⟨A, 0, none⟩ = some (.string ⟨nm.toArray⟩)) (hQ : QReads w qv l) :
    Calls Tryz.prog 169 #[qv, .func (.func 251) #[] #[.pointer (some ⟨A, 0, none⟩)]] w fun e w' => e = .returned (.int .i64 (idxFrom nm l 0)) ∧ Below w.heap.size w w' := by
  obtain ⟨ad, cap, rfl, hm, hcs⟩ := hQ
  unfold maxLen at hm
  have hAl : A < w.heap.size := World.block_lt_of_cell? w _ hA
  go_enter Tryz.func169, Tryz.ntmps169
  go_wp2
  go_loopw [8] (fun i wr => ∃ k : Nat, k ≤ l.length ∧ i = .int .i64 k ∧ Below w.heap.size w wr ∧ Hid (idxFrom nm l 0 = idxFrom nm (l.drop k) k)) (fun i _ => l.length - (intOf i).toNat)
  case atStart => exact ⟨0, Nat.zero_le _, rfl, Below.refl _ _, rfl⟩
  case round =>
    obtain ⟨k, hk, rfl, hB, HF⟩ := hrel
    by_cases hlt : k < l.length
    · have hk1 : (k : Int) < l.length := by omega
      obtain ⟨b, o, rfl, hl, hcell⟩ := hcs (by omega)
      obtain ⟨c0, c1⟩ := hcell k hlt
      rw [← hB.cell (by exact hl)] at c0 c1
      have hA2 : wr.cell? ⟨A, 0, none⟩ = some (.string ⟨nm.toArray⟩) := by rw [hB.cell (by exact hAl)]; exact hA
      have hd : l.drop k = l[k] :: l.drop (k + 1) := List.drop_eq_getElem_cons hlt
      rw [hd] at HF
      have HB : Hid (Below w.heap.size w wr) := hB
      have hsz := hB.size
      clear hcell hcs hd hB
      generalize l[k].2 = qn at *
      cases hq : decide (l[k].1 = nm)
      · have HF2 : Hid (idxFrom nm l 0 = idxFrom nm (l.drop (k + 1)) (k + 1)) := by unfold Hid; rw [HF.out, idxFrom, if_neg (by simpa using hq)]
        have hcall := fun w h => isName_any nm l[k].1 qn A w h
        rw [hq] at hcall
        clear HF hq
        generalize l[k].1 = qq at *
        go_wp2_with (go_at_call 251; refine (hcall _ hA2).mono ?_; rintro e w2 ⟨rfl, hb2⟩; have HB2 : Hid (Below w.heap.size w w2) := HB.out.trans (hb2.mono hsz); clear hb2)
        exact ⟨⟨k + 1, by omega, by go_num, HB2.out, HF2⟩, by simp [intOf]; omega⟩
      · have HF2 : Hid (idxFrom nm l 0 = (k : Int)) := by unfold Hid; rw [HF.out, idxFrom, if_pos (by simpa using hq)]
        have hcall := fun w h => isName_any nm l[k].1 qn A w h
        rw [hq] at hcall
        clear HF hq
        generalize l[k].1 = qq at *
        go_wp2_with (go_at_call 251; refine (hcall _ hA2).mono ?_; rintro e w2 ⟨rfl, hb2⟩; have HB2 : Hid (Below w.heap.size w w2) := HB.out.trans (hb2.mono hsz); clear hb2)
        go_ret
        exact ⟨ret_int HF2.out.symm, HB2.out⟩
    · have hk1 : ¬ (k : Int) < l.length := by omega
      have HF2 : Hid (idxFrom nm l 0 = -1) := by rw [HF.out, List.drop_eq_nil_of_le (by omega)]; rfl
      clear HF
      go_wp2
      go_ret
      exact ⟨ret_int HF2.out.symm, hB⟩

/-- What a name is. -/
def namedR (nm : List UInt8) (l : List (List UInt8 × Int)) : Va := match lookE nm l with
  | some x => ⟨[], sgn x⟩
  | none => ⟨nm, 0⟩
set_option maxHeartbeats 1000000 in
theorem named_any (nm : List UInt8) (qv : Value) (l : List (List UInt8 × Int)) (w : World) (hQ : QReads w qv l) :
    Calls Tryz.prog 242 #[.string ⟨nm.toArray⟩, qv] w fun e w' => e = .returned (vaV (namedR nm l)) ∧ Below w.heap.size w w' := by
  have hmf : ∀ (fn : Fn) (first cap : Array Value) (w : World), (Instr.makeFunc fn first cap).run Tryz.prog w = .ok (.func fn first cap) w := fun _ _ _ _ => rfl
  have hb0 : Below w.heap.size w ((w.alloc (.cells #[.string ⟨nm.toArray⟩] 9)).alloc (.cells #[.string ⟨#[]⟩, .int .i64 0] 143)) := ((Below.refl _ _).alloc (Nat.le_refl _) _).alloc (by simp) _
  have hQ0 := hQ.below hb0 (Nat.le_refl _)
  have hc0 : ((w.alloc (.cells #[.string ⟨nm.toArray⟩] 9)).alloc (.cells #[.string ⟨#[]⟩, .int .i64 0] 143)).cell? ⟨w.heap.size, 0, none⟩ = some (.string ⟨nm.toArray⟩) := by
    rw [World.cell?_alloc_lt _ _ _ (by simp)]
    exact cell_at rfl rfl
  have hshape : ∃ ad cap, qv = .slice ad l.length cap := by obtain ⟨ad, cap, e, _⟩ := hQ; exact ⟨ad, cap, e⟩
  obtain ⟨ad, cap, rfl⟩ := hshape
  have hz : Hid (w.heap.size + 1 < ((w.alloc (.cells #[.string ⟨nm.toArray⟩] 9)).alloc (.cells #[.string ⟨#[]⟩, .int .i64 0] 143)).heap.size) := by simp [Hid]
  clear hQ
  go_enter Tryz.func242, Tryz.ntmps242
  go_wp2_with fail
  refine (index_any nm _ l w.heap.size _ hc0 hQ0).mono ?_
  rintro e w1 ⟨rfl, hb1⟩
  have HB1 : Hid (Below w.heap.size w w1) := hb0.trans (hb1.mono (by simp; omega))
  have hQ1 := hQ0.below hb1 (Nat.le_refl _)
  have hc1 : w1.cell? ⟨w.heap.size, 0, none⟩ = some (.string ⟨nm.toArray⟩) := by rw [hb1.cell (by simp; omega)]; exact hc0
  obtain ⟨⟨x0, x1⟩, f0, f1⟩ := (var2_of (new_at (w := w.alloc (.cells #[.string ⟨nm.toArray⟩] 9)) (n := w.heap.size + 1) (.cells #[.string ⟨#[]⟩, .int .i64 0] 143) (by simp))).keep (hb1.block _ hz.out)
  have hz1 : w.heap.size + 1 < w1.heap.size := Nat.lt_of_lt_of_le hz.out hb1.size
  clear hb1 hb0 hQ0 hc0
  rcases idx_look nm l 0 with ⟨h1, h2⟩ | ⟨i, hi, h1, h2⟩
  · have HX : Hid (vaV (namedR nm l) = .agg #[.string ⟨nm.toArray⟩, .int .i64 0]) := by unfold Hid namedR; rw [h2]; rfl
    generalize idxFrom nm l 0 = ix at *
    clear hQ1 h2
    go_wp2
    exact bodyPost_ret (v := .agg #[.string ⟨nm.toArray⟩, .int .i64 0]) (by simp [results, Tryz.results242, go_sem, x0, x1]) rfl ⟨by rw [HX.out], bput2 HB1.out (Nat.le_succ _)⟩
  · have HX : Hid (vaV (namedR nm l) = .agg #[.string ⟨#[]⟩, .int .i64 (sgn l[i].2)]) := by unfold Hid namedR; rw [h2]; rfl
    rw [h1]
    obtain ⟨ad', cap', e', hm, hcs⟩ := hQ1
    obtain ⟨b, o, hbo, hl, hcell⟩ := hcs (by omega)
    injection e' with e1 _ _
    subst e1 hbo
    obtain ⟨_, c1⟩ := hcell i hi
    have hi2 : ((0 + i : Nat) : Int) < l.length := by omega
    have hi3 : ¬ ((0 + i : Nat) : Int) < 0 := by omega
    have hii : ((0 + i : Nat) : Int) = (i : Int) := by omega
    rw [hii] at hi2 hi3 ⊢
    clear hcs hcell h1 h2
    go_wp2_with fail
    refine (number_any _ _).mono ?_
    rintro e w2 ⟨rfl, hb2⟩
    have HB2 : Hid (Below w.heap.size w w2) := HB1.out.trans (hb2.mono (by omega))
    rw [← hb2.cell (by exact hz1)] at x0 x1
    rw [← hb2.frozen (by exact hz1)] at f0 f1
    clear hb2
    go_wp2
    exact bodyPost_ret (v := .agg #[.string ⟨#[]⟩, .int .i64 (sgn l[i].2)]) (by simp [results, Tryz.results242, go_sem, x0, x1]) rfl ⟨by rw [HX.out], bput2 HB2.out (Nat.le_succ _)⟩

end Go.Proofs.YtjmjhbdlbmnllaaGreatDoor.Xp
