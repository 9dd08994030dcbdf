import Derived.Test.YtfmljailbebfgaaGreatDoorPut11
import Derived.Laws.BitsLemmas
set_option maxHeartbeats 4000000
namespace Go.Proofs.YtfmljailbebfgaaGreatDoor.Xp
open Go.RowKit
theorem low32 (x : Int) : (BitVec.ofInt 64 x).toNat % 2 ^ 32 = (BitVec.ofInt 32 x).toNat := by
 rw [BitVec.toNat_ofInt, BitVec.toNat_ofInt]
 omega
theorem qFa (x y : Int) : sgn (bits .and .i64 x y) = bits .and .i32 x y := by
 show sgn (IntKind.i64.wrap ((BitVec.ofInt 64 x &&& BitVec.ofInt 64 y).toNat : Nat)) = IntKind.i32.wrap ((BitVec.ofInt 32 x &&& BitVec.ofInt 32 y).toNat : Nat)
 have key : (BitVec.ofInt 32 x &&& BitVec.ofInt 32 y).toNat = (BitVec.ofInt 64 x &&& BitVec.ofInt 64 y).toNat % 2 ^ 32 := by
  rw [BitVec.toNat_and, BitVec.toNat_and, Nat.and_mod_two_pow, low32, low32]
 rw [key, qH2, IntKind.wrap_i64]
 unfold sgn wrap32
 omega
theorem or_low (x y : Int) : sgn (bits .or .i64 x y) = bits .or .i32 x y := by
 show sgn (IntKind.i64.wrap ((BitVec.ofInt 64 x ||| BitVec.ofInt 64 y).toNat : Nat)) = IntKind.i32.wrap ((BitVec.ofInt 32 x ||| BitVec.ofInt 32 y).toNat : Nat)
 have key : (BitVec.ofInt 32 x ||| BitVec.ofInt 32 y).toNat = (BitVec.ofInt 64 x ||| BitVec.ofInt 64 y).toNat % 2 ^ 32 := by
  rw [BitVec.toNat_or, BitVec.toNat_or, Nat.or_mod_two_pow, low32, low32]
 rw [key, qH2, IntKind.wrap_i64]
 unfold sgn wrap32
 omega
theorem and31 (n : Int) : bits .and .i64 n 31 = n % 32 := by
 have h31 : (BitVec.ofInt 64 31).toNat = 2 ^ 5 - 1 := by decide
 have key : (BitVec.ofInt 64 n &&& BitVec.ofInt 64 31).toNat = (n % ((2 ^ 64 : Nat) : Int)).toNat % 2 ^ 5 := by
  rw [BitVec.toNat_and, BitVec.toNat_ofInt, h31, Nat.and_two_pow_sub_one_eq_mod]
 show IntKind.i64.wrap ((BitVec.ofInt 64 n &&& BitVec.ofInt 64 31).toNat : Nat) = n % 32
 rw [key, IntKind.wrap_i64]
 omega
theorem qAQ (n : Int) (w : World) :
  Calls Tryz.prog 269 #[.int .i64 n] w fun e w' => e = .returned (.agg #[.string ⟨#[]⟩, .int .i64 (sgn n)]) /\ Below w.heap.size w w' := by
 go_enter Tryz.func269, Tryz.ntmps269
 go_wp2_with (go_at_call 60; refine (qA4 _ _).mono ?_; rintro e w' ⟨rfl, rfl⟩)
 exact bodyPost_ret (v := .agg #[.string ⟨#[]⟩, .int .i64 (sgn n)]) (by simp [results, Tryz.results269, go_sem]) rfl ⟨rfl, (Below.refl _ _).alloc (Nat.le_refl _) _⟩
theorem qGx (kind : Int) (a b : List UInt8) (w : World) :
  Calls Tryz.prog 275 #[.int .i64 kind, .string ⟨a.toArray⟩, .string ⟨b.toArray⟩] w fun e w' => e = .returned (.tuple #[.string ⟨((qBW kind a b).getD []).toArray⟩, .bool (qBW kind a b).isSome]) /\ w = w' := by
 have go : ∀ (o : Option (List UInt8)), qBW kind a b = o -> (Calls Tryz.prog 275 #[.int .i64 kind, .string ⟨a.toArray⟩, .string ⟨b.toArray⟩] w fun e w' => e = .returned (.tuple #[.string ⟨(o.getD []).toArray⟩, .bool o.isSome]) /\ w = w') -> Calls Tryz.prog 275 #[.int .i64 kind, .string ⟨a.toArray⟩, .string ⟨b.toArray⟩] w fun e w' => e = .returned (.tuple #[.string ⟨((qBW kind a b).getD []).toArray⟩, .bool (qBW kind a b).isSome]) /\ w = w' := by
  intro o ho h
  rw [ho]
  exact h
 by_cases ha : a = []
 ·by_cases hb : b = []
  ·refine go (some []) (by simp [qBW, ha, hb]) ?_
   subst ha hb
   go_enter Tryz.func275, Tryz.ntmps275
   go_wp2
   go_ret2
   exact ⟨rfl, rfl⟩
  ·have eb : (b == []) = false := by simpa using hb
   by_cases h6 : kind = 6
   ·refine go (some b) (by simp [qBW, ha, hb, h6]) ?_
    subst ha h6
    go_enter Tryz.func275, Tryz.ntmps275
    go_wp2
    go_ret2
    exact ⟨rfl, rfl⟩
   ·have e6 : (kind == 6) = false := by simpa using h6
    have hab : ¬ ([] = b) := fun e => hb e.symm
    have eab : (([] : List UInt8) == b) = false := by simpa using hab
    refine go none (by simp [qBW, ha, hb, h6, hab]) ?_
    subst ha
    by_cases h7 : kind = 7
    ·subst h7
     go_enter Tryz.func275, Tryz.ntmps275
     go_wp2
     go_ret2
     exact ⟨rfl, rfl⟩
    ·have e7 : (kind == 7) = false := by simpa using h7
     go_enter Tryz.func275, Tryz.ntmps275
     go_wp2
     go_ret2
     exact ⟨rfl, rfl⟩
 ·have ea : (a == []) = false := by simpa using ha
  by_cases hb : b = []
  ·subst hb
   by_cases h6 : kind = 6
   ·refine go (some a) (by simp [qBW, ha, h6]) ?_
    subst h6
    go_enter Tryz.func275, Tryz.ntmps275
    go_wp2
    go_ret2
    exact ⟨rfl, rfl⟩
   ·have e6 : (kind == 6) = false := by simpa using h6
    by_cases h7 : kind = 7
    ·refine go (some a) (by simp [qBW, ha, h7]) ?_
     subst h7
     go_enter Tryz.func275, Tryz.ntmps275
     go_wp2
     go_ret2
     exact ⟨rfl, rfl⟩
    ·have e7 : (kind == 7) = false := by simpa using h7
     refine go none (by simp [qBW, ha, h6, h7]) ?_
     go_enter Tryz.func275, Tryz.ntmps275
     go_wp2
     go_ret2
     exact ⟨rfl, rfl⟩
  ·have eb : (b == []) = false := by simpa using hb
   by_cases h7 : kind = 7
   ·by_cases hab : a = b
    ·have eab : (a == b) = true := by simpa using hab
     refine go (some []) (by simp [qBW, h7, hab]) ?_
     subst h7
     go_enter Tryz.func275, Tryz.ntmps275
     go_wp2
     go_ret2
     exact ⟨rfl, rfl⟩
    ·have eab : (a == b) = false := by simpa using hab
     refine go none (by simp [qBW, ha, hb, h7, hab]) ?_
     subst h7
     go_enter Tryz.func275, Tryz.ntmps275
     go_wp2
     go_ret2
     exact ⟨rfl, rfl⟩
   ·have e7 : (kind == 7) = false := by simpa using h7
    refine go none (by simp [qBW, ha, hb, h7]) ?_
    by_cases h6 : kind = 6
    ·subst h6
     go_enter Tryz.func275, Tryz.ntmps275
     go_wp2
     go_ret2
     exact ⟨rfl, rfl⟩
    ·have e6 : (kind == 6) = false := by simpa using h6
     go_enter Tryz.func275, Tryz.ntmps275
     go_wp2
     go_ret2
     exact ⟨rfl, rfl⟩
theorem qCo (z : Int) : sgn (wrap64 z) = wrap32 z := by unfold sgn wrap32 wrap64; omega
theorem qJh (a t : Int) : wrap32 (a + 4294967296 * t) = wrap32 a := by unfold wrap32; omega
theorem qIz (x c : Int) : wrap32 (x * c) = wrap32 (x % 4294967296 * c) := by
 have h : x * c = x % 4294967296 * c + 4294967296 * (x / 4294967296 * c) := by
  have := Int.emod_add_mul_ediv x 4294967296
  calc x * c = (x % 4294967296 + 4294967296 * (x / 4294967296)) * c := by rw [this]
   _ = _ := by rw [Int.add_mul, Int.mul_assoc]
 rw [h, qJh]
theorem five (y : Int) : (y % 4294967296) % 32 = y % 32 := by omega
theorem qKi (kind x y : Int) (w : World) (h5 : 5 <= kind) (h11 : kind <= 11) :
  Calls Tryz.prog 276 #[.int .i64 kind, .int .i64 x, .int .i64 y] w fun e w' => (∃ n, e = .returned (.int .i64 n) /\ sgn n = opR kind x y) /\ w = w' := by
 have : kind = 5 \/ kind = 6 \/ kind = 7 \/ kind = 8 \/ kind = 9 \/ kind = 10 \/ kind = 11 := by omega
 rcases this with rfl | rfl | rfl | rfl | rfl | rfl | rfl
 ·go_enter Tryz.func276, Tryz.ntmps276
  go_wp2
  go_ret
  exact ⟨⟨_, rfl, qCo _⟩, rfl⟩
 ·go_enter Tryz.func276, Tryz.ntmps276
  go_wp2
  go_ret
  exact ⟨⟨_, rfl, qCo _⟩, rfl⟩
 ·go_enter Tryz.func276, Tryz.ntmps276
  go_wp2
  go_ret
  exact ⟨⟨_, rfl, qCo _⟩, rfl⟩
 ·have := and31 y
  have hs : ¬ y % 32 < 0 := by omega
  go_enter Tryz.func276, Tryz.ntmps276
  go_wp2
  go_ret
  refine ⟨⟨_, rfl, (qCo _).trans ?_⟩, rfl⟩
  show _ = wrap32 ((x % 4294967296) * 2 ^ ((y % 4294967296) % 32).toNat)
  rw [five, qIz]
 ·have := and31 y
  have hs : ¬ y % 32 < 0 := by omega
  go_enter Tryz.func276, Tryz.ntmps276
  go_wp2
  go_ret
  refine ⟨⟨_, rfl, (qCo _).trans ?_⟩, rfl⟩
  show _ = wrap32 ((x % 4294967296) / 2 ^ ((y % 4294967296) % 32).toNat)
  rw [five]
 ·go_enter Tryz.func276, Tryz.ntmps276
  go_wp2
  go_ret
  exact ⟨⟨_, rfl, qFa x y⟩, rfl⟩
 ·go_enter Tryz.func276, Tryz.ntmps276
  go_wp2
  go_ret
  exact ⟨⟨_, rfl, or_low x y⟩, rfl⟩
theorem qH {w : World} {n : Nat} (o : Obj) (h : w.heap.size = n) : (w.alloc o).heap[n]? = some o := h ▸ heap_alloc_new w o
theorem cell_at {w : World} {n o : Nat} {cs : Array Value} {t : TypeId} {v : Value} (h : w.heap.size = n) (hv : cs[o]? = some v) : (w.alloc (.cells cs t)).cell? ⟨n, o, none⟩ = some v := by
 simp [World.cell?, qH _ h, hv]
theorem ofTwo_any (kind : Int) (a b : Va) (w : World) (h5 : 5 <= kind) (h11 : kind <= 11) :
  Calls Tryz.prog 266 #[.int .i64 kind, .agg #[.string ⟨a.name.toArray⟩, .int .i64 a.n], .agg #[.string ⟨b.name.toArray⟩, .int .i64 b.n]] w fun e w' =>
   e = .returned (evalV (match qBW kind a.name b.name with | some p => .ok ⟨p, opR kind a.n b.n⟩ | none => .error 8)) /\ Below w.heap.size w w' := by
 cases hp : qBW kind a.name b.name with
 | none =>
   have hpl := qGx kind a.name b.name
   rw [hp] at hpl
   simp only [Option.getD_none, Option.isSome_none] at hpl
   go_enter Tryz.func266, Tryz.ntmps266
   go_wp2_with (go_at_call 275; refine (hpl _).mono ?_; rintro e w' ⟨rfl, rfl⟩)
   exact bodyPost_ret (v := .tuple #[.agg #[.string ⟨#[]⟩, .int .i64 0], .int .i64 8]) (by simp [results, Tryz.results266, go_sem]) rfl ⟨rfl, (((Below.refl _ _).alloc (Nat.le_refl _) _).alloc (by simp) _).alloc (by simp; omega) _⟩
 | some p =>
   have hpl := qGx kind a.name b.name
   rw [hp] at hpl
   simp only [Option.getD_some, Option.isSome_some] at hpl
   go_enter Tryz.func266, Tryz.ntmps266
   go_wp2_with (go_at_call 275; refine (hpl _).mono ?_; rintro e w' ⟨rfl, rfl⟩)
   refine (qKi kind a.n b.n _ h5 h11).mono ?_
   rintro e w' ⟨⟨n, rfl, hn⟩, rfl⟩
   go_wp2_with (go_at_call 60; refine (qA4 _ _).mono ?_; rintro e w' ⟨rfl, rfl⟩; simp only [hn])
   exact bodyPost_ret (v := .tuple #[.agg #[.string ⟨p.toArray⟩, .int .i64 (opR kind a.n b.n)], .int .i64 0]) (by simp [results, Tryz.results266, go_sem]) rfl ⟨rfl, (((Below.refl _ _).alloc (Nat.le_refl _) _).alloc (by simp) _).alloc (by simp; omega) _⟩
theorem xor_neg (n : Int) : sgn (bits .xor .i64 (-1) n) = sgn (-n - 1) := by
 show sgn (IntKind.i64.wrap ((BitVec.ofInt 64 (-1) ^^^ BitVec.ofInt 64 n).toNat : Nat)) = _
 have h1 : BitVec.ofInt 64 (-1) = BitVec.allOnes 64 := by decide
 have key : (BitVec.ofInt 64 (-1) ^^^ BitVec.ofInt 64 n).toNat = 2 ^ 64 - 1 - (n % ((2 ^ 64 : Nat) : Int)).toNat := by
  rw [h1, BitVec.allOnes_xor, BitVec.toNat_not, BitVec.toNat_ofInt]
 rw [key, IntKind.wrap_i64]
 unfold sgn wrap32
 omega
def Var2 (w : World) (R : Nat) (a b : Value) : Prop := (w.cell? ⟨R, 0, none⟩ = some a /\ w.cell? ⟨R, 1, none⟩ = some b) /\ w.frozen? ⟨R, 0, none⟩ = false /\ w.frozen? ⟨R, 1, none⟩ = false
theorem qAd {w : World} {R : Nat} {a b : Value} {t : TypeId} (h : w.heap[R]? = some (.cells #[a, b] t (0, 0))) : Var2 w R a b := by
 refine ⟨⟨?_, ?_⟩, ?_, ?_⟩ <;> simp [World.cell?, World.frozen?, h]
theorem Var2.keep {w w' : World} {R : Nat} {a b : Value} (h : Var2 w R a b) (hb : w'.heap[R]? = w.heap[R]?) : Var2 w' R a b := by
 obtain ⟨⟨h0, h1⟩, f0, f1⟩ := h
 refine ⟨⟨?_, ?_⟩, ?_, ?_⟩
 ·rw [World.cell?_of_block (w := w) hb]; exact h0
 ·rw [World.cell?_of_block (w := w) hb]; exact h1
 ·rw [World.frozen?_of_block (w := w) hb]; exact f0
 ·rw [World.frozen?_of_block (w := w) hb]; exact f1
theorem bput2 {B : Nat} {w w' : World} {R : Nat} {a b : Value} (h : Below B w w') (hR : B <= R) : Below B w ((w'.setCell ⟨R, 0, none⟩ a).setCell ⟨R, 1, none⟩ b) := (h.setCell hR a).setCell hR b
theorem neg_sgn (n : Int) : sgn (wrap64 (-n)) = sgn (-n) := qCo _
theorem qKo (kind : Int) (a : Va) (w : World) (hk : kind = 3 \/ kind = 4) :
  Calls Tryz.prog 267 #[.int .i64 kind, .agg #[.string ⟨a.name.toArray⟩, .int .i64 a.n]] w fun e w' =>
   e = .returned (evalV (if a.name = [] then .ok ⟨[], sgn (if kind = 4 then -a.n - 1 else -a.n)⟩ else .error 8)) /\ Below w.heap.size w w' := by
 by_cases ha : a.name = []
 ·rw [if_pos ha]
  obtain ⟨nm, n⟩ := a
  simp only at ha ⊢
  subst ha
  rcases hk with rfl | rfl
  ·rw [if_neg (by decide)]
   go_enter Tryz.func267, Tryz.ntmps267
   go_wp2_with fail
   refine (qAQ _ _).mono ?_
   rintro e w1 ⟨rfl, hb1⟩
   have HB1 : Hid (Below w.heap.size w w1) := (((Below.refl _ _).alloc (Nat.le_refl _) _).alloc (by simp) _).trans (hb1.mono (by simp; omega))
   obtain ⟨⟨x0, x1⟩, f0, f1⟩ := (qAd (qH (w := w.alloc (.cells #[.string ⟨#[]⟩, .int .i64 n] 203)) (n := w.heap.size + 1) (.cells #[.string ⟨#[]⟩, .int .i64 0] 203) (by simp))).keep (hb1.block _ (by simp))
   clear hb1
   rw [neg_sgn]
   go_wp2
   exact bodyPost_ret (v := .tuple #[.agg #[.string ⟨#[]⟩, .int .i64 (sgn (-n))], .int .i64 0]) (by simp [results, Tryz.results267, go_sem, x0, x1]) rfl ⟨rfl, bput2 HB1.out (Nat.le_succ _)⟩
  ·rw [if_pos rfl]
   have hsg : IntKind.i64.signed = true := rfl
   go_enter Tryz.func267, Tryz.ntmps267
   go_wp2_with fail
   refine (qAQ _ _).mono ?_
   rintro e w1 ⟨rfl, hb1⟩
   have HB1 : Hid (Below w.heap.size w w1) := (((Below.refl _ _).alloc (Nat.le_refl _) _).alloc (by simp) _).trans (hb1.mono (by simp; omega))
   obtain ⟨⟨x0, x1⟩, f0, f1⟩ := (qAd (qH (w := w.alloc (.cells #[.string ⟨#[]⟩, .int .i64 n] 203)) (n := w.heap.size + 1) (.cells #[.string ⟨#[]⟩, .int .i64 0] 203) (by simp))).keep (hb1.block _ (by simp))
   clear hb1
   rw [xor_neg]
   go_wp2
   exact bodyPost_ret (v := .tuple #[.agg #[.string ⟨#[]⟩, .int .i64 (sgn (-n - 1))], .int .i64 0]) (by simp [results, Tryz.results267, go_sem, x0, x1]) rfl ⟨rfl, bput2 HB1.out (Nat.le_succ _)⟩
 ·rw [if_neg ha]
  have ea : (a.name == []) = false := by simpa using ha
  go_enter Tryz.func267, Tryz.ntmps267
  go_wp2
  exact bodyPost_ret (v := .tuple #[.agg #[.string ⟨#[]⟩, .int .i64 0], .int .i64 8]) (by simp [results, Tryz.results267, go_sem]) rfl ⟨rfl, ((Below.refl _ _).alloc (Nat.le_refl _) _).alloc (by simp) _⟩
theorem qMD (kind n : Int) (nm : List UInt8) (ad : Option Addr) (len cap : Nat) (w : World) (hL : qAt w) :
  Calls Tryz.prog 265 #[.agg #[.int .i64 kind, .int .i64 n, .string ⟨nm.toArray⟩, .slice ad len cap]] w fun e w' =>
   e = .returned (.bool (decide (1 <= kind /\ kind <= 11 /\ (len : Int) = qCS kind))) /\ Below w.heap.size w w' := by
 have hz := hL.sz
 by_cases h1 : 1 <= kind
 ·by_cases h11 : kind <= 11
  ·have hk := hL.k0 kind (by omega) h11
   have e1 : decide (1 <= kind) = true := by simpa using h1
   have e2 : decide (kind <= 11) = true := by simpa using h11
   have hix : 0 <= kind /\ kind < 12 := by omega
   go_enter Tryz.func265, Tryz.ntmps265
   go_wp2
   go_quiet (fail)
   go_wp2
   go_ret
   exact ⟨qQ (Bool.eq_iff_iff.2 (by simp [h1, h11])), ((Below.refl _ _).alloc (Nat.le_refl _) _).trans (Go.Joins.below_draws _ _ nq)⟩
  ·have e1 : decide (1 <= kind) = true := by simpa using h1
   have e2 : decide (kind <= 11) = false := by simpa using h11
   go_enter Tryz.func265, Tryz.ntmps265
   go_wp2
   go_quiet (fail)
   go_wp2
   go_ret
   exact ⟨qQ (by simp; omega), ((Below.refl _ _).alloc (Nat.le_refl _) _).trans (Go.Joins.below_draws _ _ nq)⟩
 ·have e1 : decide (1 <= kind) = false := by simpa using h1
  go_enter Tryz.func265, Tryz.ntmps265
  go_wp2
  go_quiet (fail)
  go_wp2
  go_ret
  exact ⟨qQ (by simp; omega), ((Below.refl _ _).alloc (Nat.le_refl _) _).trans (Go.Joins.below_draws _ _ nq)⟩
theorem qE7 (nm q : List UInt8) (qn : Int) (A : Nat) (w : World) (hA : w.cell? ⟨A, 0, none⟩ = some (.string ⟨nm.toArray⟩)) :
  Calls Tryz.prog 277 #[.agg #[.string ⟨q.toArray⟩, .int .i64 qn], .pointer (some ⟨A, 0, none⟩)] w fun e w' => e = .returned (.bool (decide (q = nm))) /\ Below w.heap.size w w' := by
 have hl : A < w.heap.size := World.block_lt_of_cell? w _ hA
 go_enter Tryz.func277, Tryz.ntmps277
 go_wp2
 go_ret
 exact ⟨qQ (Bool.eq_iff_iff.2 (by simp)), (Below.refl _ _).alloc (Nat.le_refl _) _⟩
def qAs (nm : List UInt8) : List (List UInt8 × Int) -> Nat -> Int
 | [], _ => -1
 | x :: r, k => if x.1 = nm then (k : Int) else qAs nm r (k + 1)
theorem qIM (nm : List UInt8) : ∀ (l : List (List UInt8 × Int)) (k : Nat), (qAs nm l k < 0 /\ qGi nm l = none) \/ (∃ i : Nat, ∃ h : i < l.length, qAs nm l k = ((k + i : Nat) : Int) /\ qGi nm l = some l[i].2)
 | [], _ => Or.inl ⟨by simp [qAs], rfl⟩
 | x :: r, k => by
   by_cases h : x.1 = nm
   ·exact Or.inr ⟨0, by simp, by simp [qAs, h], by simp [qGi, h]⟩
   ·rcases qIM nm r (k + 1) with ⟨h1, h2⟩ | ⟨i, hi, h1, h2⟩
    ·exact Or.inl ⟨by rw [qAs, if_neg h]; exact h1, by rw [qGi, if_neg h]; exact h2⟩
    ·exact Or.inr ⟨i + 1, by simpa using hi, by rw [qAs, if_neg h, h1]; omega, by rw [qGi, if_neg h]; exact h2⟩
theorem qL9 (nm : List UInt8) (qv : Value) (l : List (List UInt8 × Int)) (A : Nat) (w : World) (hA : w.cell? ⟨A, 0, none⟩ = some (.string ⟨nm.toArray⟩)) (hQ : qDx w qv l) :
  Calls Tryz.prog 191 #[qv, .func (.func 277) #[] #[.pointer (some ⟨A, 0, none⟩)]] w fun e w' => e = .returned (.int .i64 (qAs nm l 0)) /\ Below w.heap.size w w' := by
 obtain ⟨ad, cap, rfl, hm, hcs⟩ := hQ
 unfold maxLen at hm
 have hAl : A < w.heap.size := World.block_lt_of_cell? w _ hA
 go_enter Tryz.func191, Tryz.ntmps191
 go_wp2
 go_loopw [8] (fun i wr => ∃ k : Nat, k <= l.length /\ i = .int .i64 k /\ Below w.heap.size w wr /\ Hid (qAs nm l 0 = qAs nm (l.drop k) k)) (fun i _ => l.length - (intOf i).toNat)
 case atStart => exact ⟨0, Nat.zero_le _, rfl, Below.refl _ _, rfl⟩
 case round =>
  obtain ⟨k, hk, rfl, hB, HF⟩ := hrel
  by_cases hlt : k < l.length
  ·have hk1 : (k : Int) < l.length := by omega
   obtain ⟨b, o, rfl, hl, hcell⟩ := hcs (by omega)
   obtain ⟨c0, c1⟩ := hcell k hlt
   rw [<- hB.cell (by exact hl)] at c0 c1
   have hA2 : wr.cell? ⟨A, 0, none⟩ = some (.string ⟨nm.toArray⟩) := by rw [hB.cell (by exact hAl)]; exact hA
   have hd : l.drop k = l[k] :: l.drop (k + 1) := List.drop_eq_getElem_cons hlt
   rw [hd] at HF
   have HB : Hid (Below w.heap.size w wr) := hB
   have hsz := hB.size
   clear hcell hcs hd hB
   generalize l[k].2 = qn at *
   cases hq : decide (l[k].1 = nm)
   ·have HF2 : Hid (qAs nm l 0 = qAs nm (l.drop (k + 1)) (k + 1)) := by unfold Hid; rw [HF.out, qAs, if_neg (by simpa using hq)]
    have hcall := fun w h => qE7 nm l[k].1 qn A w h
    rw [hq] at hcall
    clear HF hq
    generalize l[k].1 = qq at *
    go_wp2_with (go_at_call 277; refine (hcall _ hA2).mono ?_; rintro e w2 ⟨rfl, hb2⟩; have HB2 : Hid (Below w.heap.size w w2) := HB.out.trans (hb2.mono hsz); clear hb2)
    exact ⟨⟨k + 1, by omega, by go_num, HB2.out, HF2⟩, by simp [intOf]; omega⟩
   ·have HF2 : Hid (qAs nm l 0 = (k : Int)) := by unfold Hid; rw [HF.out, qAs, if_pos (by simpa using hq)]
    have hcall := fun w h => qE7 nm l[k].1 qn A w h
    rw [hq] at hcall
    clear HF hq
    generalize l[k].1 = qq at *
    go_wp2_with (go_at_call 277; refine (hcall _ hA2).mono ?_; rintro e w2 ⟨rfl, hb2⟩; have HB2 : Hid (Below w.heap.size w w2) := HB.out.trans (hb2.mono hsz); clear hb2)
    go_ret
    exact ⟨qU HF2.out.symm, HB2.out⟩
  ·have hk1 : ¬ (k : Int) < l.length := by omega
   have HF2 : Hid (qAs nm l 0 = -1) := by rw [HF.out, List.drop_eq_nil_of_le (by omega)]; rfl
   clear HF
   go_wp2
   go_ret
   exact ⟨qU HF2.out.symm, hB⟩
def qFB (nm : List UInt8) (l : List (List UInt8 × Int)) : Va := match qGi nm l with
 | some x => ⟨[], sgn x⟩
 | none => ⟨nm, 0⟩
theorem qKY (nm : List UInt8) (qv : Value) (l : List (List UInt8 × Int)) (w : World) (hQ : qDx w qv l) :
  Calls Tryz.prog 268 #[.string ⟨nm.toArray⟩, qv] w fun e w' => e = .returned (vaV (qFB nm l)) /\ Below w.heap.size w w' := by
 have hmf : ∀ (fn : Fn) (first cap : Array Value) (w : World), (Instr.makeFunc fn first cap).run Tryz.prog w = .ok (.func fn first cap) w := fun _ _ _ _ => rfl
 have hb0 : Below w.heap.size w ((w.alloc (.cells #[.string ⟨nm.toArray⟩] 9)).alloc (.cells #[.string ⟨#[]⟩, .int .i64 0] 203)) := ((Below.refl _ _).alloc (Nat.le_refl _) _).alloc (by simp) _
 have hQ0 := hQ.below hb0 (Nat.le_refl _)
 have hc0 : ((w.alloc (.cells #[.string ⟨nm.toArray⟩] 9)).alloc (.cells #[.string ⟨#[]⟩, .int .i64 0] 203)).cell? ⟨w.heap.size, 0, none⟩ = some (.string ⟨nm.toArray⟩) := by
  rw [World.cell?_alloc_lt _ _ _ (by simp)]
  exact cell_at rfl rfl
 have hshape : ∃ ad cap, qv = .slice ad l.length cap := by obtain ⟨ad, cap, e, _⟩ := hQ; exact ⟨ad, cap, e⟩
 obtain ⟨ad, cap, rfl⟩ := hshape
 have hz : Hid (w.heap.size + 1 < ((w.alloc (.cells #[.string ⟨nm.toArray⟩] 9)).alloc (.cells #[.string ⟨#[]⟩, .int .i64 0] 203)).heap.size) := by simp [Hid]
 clear hQ
 go_enter Tryz.func268, Tryz.ntmps268
 go_wp2_with fail
 refine (qL9 nm _ l w.heap.size _ hc0 hQ0).mono ?_
 rintro e w1 ⟨rfl, hb1⟩
 have HB1 : Hid (Below w.heap.size w w1) := hb0.trans (hb1.mono (by simp; omega))
 have hQ1 := hQ0.below hb1 (Nat.le_refl _)
 have hc1 : w1.cell? ⟨w.heap.size, 0, none⟩ = some (.string ⟨nm.toArray⟩) := by rw [hb1.cell (by simp; omega)]; exact hc0
 obtain ⟨⟨x0, x1⟩, f0, f1⟩ := (qAd (qH (w := w.alloc (.cells #[.string ⟨nm.toArray⟩] 9)) (n := w.heap.size + 1) (.cells #[.string ⟨#[]⟩, .int .i64 0] 203) (by simp))).keep (hb1.block _ hz.out)
 have hz1 : w.heap.size + 1 < w1.heap.size := Nat.lt_of_lt_of_le hz.out hb1.size
 clear hb1 hb0 hQ0 hc0
 rcases qIM nm l 0 with ⟨h1, h2⟩ | ⟨i, hi, h1, h2⟩
 ·have HX : Hid (vaV (qFB nm l) = .agg #[.string ⟨nm.toArray⟩, .int .i64 0]) := by unfold Hid qFB; rw [h2]; rfl
  generalize qAs nm l 0 = ix at *
  clear hQ1 h2
  go_wp2
  exact bodyPost_ret (v := .agg #[.string ⟨nm.toArray⟩, .int .i64 0]) (by simp [results, Tryz.results268, go_sem, x0, x1]) rfl ⟨by rw [HX.out], bput2 HB1.out (Nat.le_succ _)⟩
 ·have HX : Hid (vaV (qFB nm l) = .agg #[.string ⟨#[]⟩, .int .i64 (sgn l[i].2)]) := by unfold Hid qFB; rw [h2]; rfl
  rw [h1]
  obtain ⟨ad', cap', e', hm, hcs⟩ := hQ1
  obtain ⟨b, o, hbo, hl, hcell⟩ := hcs (by omega)
  injection e' with e1 _ _
  subst e1 hbo
  obtain ⟨_, c1⟩ := hcell i hi
  have hi2 : ((0 + i : Nat) : Int) < l.length := by omega
  have hi3 : ¬ ((0 + i : Nat) : Int) < 0 := by omega
  have hii : ((0 + i : Nat) : Int) = (i : Int) := by omega
  rw [hii] at hi2 hi3 ⊢
  clear hcs hcell h1 h2
  go_wp2_with fail
  refine (qAQ _ _).mono ?_
  rintro e w2 ⟨rfl, hb2⟩
  have HB2 : Hid (Below w.heap.size w w2) := HB1.out.trans (hb2.mono (by omega))
  rw [<- hb2.cell (by exact hz1)] at x0 x1
  rw [<- hb2.frozen (by exact hz1)] at f0 f1
  clear hb2
  go_wp2
  exact bodyPost_ret (v := .agg #[.string ⟨#[]⟩, .int .i64 (sgn l[i].2)]) (by simp [results, Tryz.results268, go_sem, x0, x1]) rfl ⟨by rw [HX.out], bput2 HB2.out (Nat.le_succ _)⟩
end Go.Proofs.YtfmljailbebfgaaGreatDoor.Xp
