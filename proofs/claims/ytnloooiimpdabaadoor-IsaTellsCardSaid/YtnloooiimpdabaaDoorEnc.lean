/- The contract of isa.Encode. -/
import Derived.Test.YtnloooiimpdabaaDoorOne
namespace Go.Proofs.YtnloooiimpdabaaDoor
open Go.RowKit

/-- The half word of an instruction that may be. -/
def encI (op n m imm : Int) : Int :=
  bits .or .i64 (bits .or .i64 (bits .or .i64 (opBits op) (IntKind.i64.wrap (n * 256))) (IntKind.i64.wrap (m * 16))) (bits .and .i64 imm (layHigh (opShape op) - layLow (opShape op)))

theorem lay_bd (s : Int) : -4096 ≤ layLow s ∧ layLow s ≤ 4096 ∧ -4096 ≤ layHigh s ∧ layHigh s ≤ 4096 := by
  by_cases h : 0 ≤ s ∧ s ≤ 11
  · obtain ⟨k, hk⟩ : ∃ k : Nat, s = k := ⟨s.toNat, by omega⟩
    subst hk
    have hk : k < 12 := by omega
    have h' : ∀ j : Fin 12, -4096 ≤ layLow (j.val : Int) ∧ layLow (j.val : Int) ≤ 4096 ∧ -4096 ≤ layHigh (j.val : Int) ∧ layHigh (j.val : Int) ≤ 4096 := by decide
    exact h' ⟨k, hk⟩
  · obtain ⟨_, _, e2, e3⟩ := lay_out h
    rw [e2, e3]; omega

/-- The cells that Encode's last statement reads stay, behind a callee that writes nothing old. -/
theorem keepE {w w1 w2 : World} {B C B1 : Nat} {a b c d e : Value} (hb : Below B1 w1 w2) (hB : B < B1) (hC : C < B1)
    (h : B < w1.heap.size ∧ C < w1.heap.size ∧ w1.cell? ⟨B, 1, none⟩ = some a ∧ w1.cell? ⟨B, 2, none⟩ = some b ∧ w1.cell? ⟨B, 3, none⟩ = some c ∧ w1.cell? ⟨C, 1, none⟩ = some d ∧ w1.cell? ⟨C, 2, none⟩ = some e ∧ Below B w w1) :
    B < w2.heap.size ∧ C < w2.heap.size ∧ w2.cell? ⟨B, 1, none⟩ = some a ∧ w2.cell? ⟨B, 2, none⟩ = some b ∧ w2.cell? ⟨B, 3, none⟩ = some c ∧ w2.cell? ⟨C, 1, none⟩ = some d ∧ w2.cell? ⟨C, 2, none⟩ = some e ∧ Below B w w2 := by
  obtain ⟨h0, h1, h2, h3, h4, h5, h6, h7⟩ := h
  exact ⟨Nat.lt_of_lt_of_le h0 hb.size, Nat.lt_of_lt_of_le h1 hb.size, by rw [hb.cell hB]; exact h2, by rw [hb.cell hB]; exact h3, by rw [hb.cell hB]; exact h4, by rw [hb.cell hC]; exact h5, by rw [hb.cell hC]; exact h6, h7.trans (hb.mono (by omega))⟩

theorem laidE {w w1 : World} {C : Nat} {a b c d e : Value} (hL : Laid w) 
    (h : w.heap.size < w1.heap.size ∧ C < w1.heap.size ∧ w1.cell? ⟨w.heap.size, 1, none⟩ = some a ∧ w1.cell? ⟨w.heap.size, 2, none⟩ = some b ∧ w1.cell? ⟨w.heap.size, 3, none⟩ = some c ∧ w1.cell? ⟨C, 1, none⟩ = some d ∧ w1.cell? ⟨C, 2, none⟩ = some e ∧ Below w.heap.size w w1) : Laid w1 :=
  hL.below h.2.2.2.2.2.2.2 hL.sz

theorem startE {w w1 : World} {x a b c d e : Value} (hB : Below w.heap.size w w1) (hz : w.heap.size < w1.heap.size)
    (h1 : w1.cell? ⟨w.heap.size, 1, none⟩ = some a) (h2 : w1.cell? ⟨w.heap.size, 2, none⟩ = some b) (h3 : w1.cell? ⟨w.heap.size, 3, none⟩ = some c) :
    w.heap.size < (w1.alloc (.cells #[x, d, e] 51)).drew.heap.size ∧ w1.heap.size < (w1.alloc (.cells #[x, d, e] 51)).drew.heap.size ∧ (w1.alloc (.cells #[x, d, e] 51)).drew.cell? ⟨w.heap.size, 1, none⟩ = some a ∧ (w1.alloc (.cells #[x, d, e] 51)).drew.cell? ⟨w.heap.size, 2, none⟩ = some b ∧ (w1.alloc (.cells #[x, d, e] 51)).drew.cell? ⟨w.heap.size, 3, none⟩ = some c ∧ (w1.alloc (.cells #[x, d, e] 51)).drew.cell? ⟨w1.heap.size, 1, none⟩ = some d ∧ (w1.alloc (.cells #[x, d, e] 51)).drew.cell? ⟨w1.heap.size, 2, none⟩ = some e ∧ Below w.heap.size w (w1.alloc (.cells #[x, d, e] 51)).drew := by
  refine ⟨?_, ?_, ?_, ?_, ?_, ?_, ?_, (hB.alloc hB.size _).drew⟩
  · simp; omega
  · simp
  · simp; rw [World.cell?_alloc_lt _ _ _ (by simpa using hz)]; exact h1
  · simp; rw [World.cell?_alloc_lt _ _ _ (by simpa using hz)]; exact h2
  · simp; rw [World.cell?_alloc_lt _ _ _ (by simpa using hz)]; exact h3
  · simp
  · simp

theorem encode_wrong (op n m imm : Int) (w : World) (hL : Laid w) (hw : (wrongI op n m imm != 0) = true) :
    Calls Tryd.prog 15 #[.agg #[.int .i64 op, .int .i64 n, .int .i64 m, .int .i64 imm]] w fun e w' => e = .returned (.tuple #[.int .i64 0, .int .i64 (wrongI op n m imm)]) ∧ Below w.heap.size w w' := by
  have hs := hL.sz
  have H := hL.below ((Below.refl w.heap.size w).alloc (Nat.le_refl _) (.cells #[.int .i64 op, .int .i64 n, .int .i64 m, .int .i64 imm] 23)) hs
  go_enter Tryd.func15, Tryd.ntmps15
  go_wp2_with fail
  refine (wrong_any _ _ _ _ _ H).mono ?_
  rintro e w1 ⟨rfl, hb1⟩
  have hB1 := ((Below.refl w.heap.size w).alloc (Nat.le_refl _) _).trans (hb1.mono (by simp))
  clear hb1 H
  go_wp2
  go_ret2
  exact ⟨rfl, hB1⟩

theorem encode_ok (op n m imm : Int) (w : World) (hL : Laid w) (hw : wrongI op n m imm = 0) (hk1 : 1 ≤ op) (hk2 : op ≤ 27) :
    Calls Tryd.prog 15 #[.agg #[.int .i64 op, .int .i64 n, .int .i64 m, .int .i64 imm]] w fun e w' => e = .returned (.tuple #[.int .i64 (encI op n m imm), .int .i64 0]) ∧ Below w.heap.size w w' := by
  have hs := hL.sz
  have hs0 : 0 < w.heap.size := by omega
  have H := hL.below ((Below.refl w.heap.size w).alloc (Nat.le_refl _) (.cells #[.int .i64 op, .int .i64 n, .int .i64 m, .int .i64 imm] 23)) hs
  go_enter Tryd.func15, Tryd.ntmps15
  go_wp2_with fail
  refine (wrong_any _ _ _ _ _ H).mono ?_
  rintro e w1 ⟨rfl, hb1⟩
  have H1 := H.below hb1 (by simp; omega)
  have c0 := H1.o0 op (by omega) (by omega)
  have c1 := H1.o1 op (by omega) (by omega)
  have c2 := H1.o2 op (by omega) (by omega)
  have hs1 := H1.sz
  have hs10 : 0 < w1.heap.size := by omega
  obtain ⟨hc, hf⟩ := bcell hb1
  have hz0 : w.heap.size < w1.heap.size := by have := hb1.size; simp at this; omega
  have hB1 := ((Below.refl w.heap.size w).alloc (Nat.le_refl _) _).trans (hb1.mono (by simp))
  have k1 : w1.cell? ⟨w.heap.size, 1, none⟩ = some (.int .i64 n) := by rw [hc _ _ (by simp)]; simp
  have k2 : w1.cell? ⟨w.heap.size, 2, none⟩ = some (.int .i64 m) := by rw [hc _ _ (by simp)]; simp
  have k3 : w1.cell? ⟨w.heap.size, 3, none⟩ = some (.int .i64 imm) := by rw [hc _ _ (by simp)]; simp
  obtain ⟨l1, l2, l3, l4⟩ := lay_bd (opShape op)
  clear hb1 H H1
  go_wp2_with fail
  go_region_held3 (fun w' => w.heap.size < w'.heap.size ∧ w1.heap.size < w'.heap.size ∧ w'.cell? ⟨w.heap.size, 1, none⟩ = some (.int .i64 n) ∧ w'.cell? ⟨w.heap.size, 2, none⟩ = some (.int .i64 m) ∧ w'.cell? ⟨w.heap.size, 3, none⟩ = some (.int .i64 imm) ∧ w'.cell? ⟨w1.heap.size, 1, none⟩ = some (.int .i64 (opShape op)) ∧ w'.cell? ⟨w1.heap.size, 2, none⟩ = some (.int .i64 (opBits op)) ∧ Below w.heap.size w w')
    (first | exact keepE hb2 (by simp; omega) (by simp) (by assumption) | exact keepE hb3 (by omega) (by omega) (by assumption) | exact startE hB1 hz0 k1 k2 k3)
    (first | (go_at_call 25; refine (layoutOf_any _ _ ?_).mono ?_; (exact laidE hL (by assumption)); rintro e w' ⟨rfl, hb2⟩; unfold layV) | (go_at_call 28; refine (number_any _ _ _ _ _ l1 l2 l3 l4).mono ?_; rintro e w' ⟨rfl, hb3⟩))
  rename_i hH
  have hB := hH.2.2.2.2.2.2.2
  clear hH hb2 hb3 hB1 k1 k2 k3 hc hf
  go_wp2
  go_ret2
  exact ⟨rfl, hB⟩

theorem wrongI_zero {op n m imm : Int} (h : wrongI op n m imm = 0) : 1 ≤ op ∧ op ≤ 27 ∧ 0 ≤ n ∧ n ≤ layN (opShape op) ∧ 0 ≤ m ∧ m ≤ layM (opShape op) ∧ layLow (opShape op) ≤ imm ∧ imm ≤ layHigh (opShape op) := by
  unfold wrongI at h
  by_cases hk : knownB op = true
  · rw [if_pos hk] at h
    by_cases h3 : withinB n 0 (layN (opShape op)) = true ∧ withinB m 0 (layM (opShape op)) = true ∧ withinB imm (layLow (opShape op)) (layHigh (opShape op)) = true
    · simp [knownB, withinB] at hk h3
      omega
    · rw [if_neg h3] at h
      simp at h
  · rw [if_neg hk] at h
    simp at h

/-- What Encode tells: the half word, or 0. -/
def encW (op n m imm : Int) : Int := if wrongI op n m imm = 0 then encI op n m imm else 0

theorem encode_any (op n m imm : Int) (w : World) (hL : Laid w) :
    Calls Tryd.prog 15 #[.agg #[.int .i64 op, .int .i64 n, .int .i64 m, .int .i64 imm]] w fun e w' => e = .returned (.tuple #[.int .i64 (encW op n m imm), .int .i64 (wrongI op n m imm)]) ∧ Below w.heap.size w w' := by
  by_cases h : wrongI op n m imm = 0
  · obtain ⟨h1, h2, _⟩ := wrongI_zero h
    have e1 : encW op n m imm = encI op n m imm := by simp [encW, h]
    rw [e1, h]
    exact encode_ok op n m imm w hL h h1 h2
  · have e1 : encW op n m imm = 0 := by simp [encW, h]
    rw [e1]
    exact encode_wrong op n m imm w hL (by simpa using h)

end Go.Proofs.YtnloooiimpdabaaDoor
