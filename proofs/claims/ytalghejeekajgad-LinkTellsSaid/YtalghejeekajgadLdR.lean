/- The walk of pllaw7.LinkTells: whatever the objects and the base, it tells true. -/
import Derived.Test.YtalghejeekajgadLdS
namespace Go.Proofs.Ytalghejeekajgad
open Go.RowKit

/-- What Link tells, as one image and one fault. -/
def lkB (r : Except (Int × Nat) (List UInt8 × List Sy)) : List UInt8 := match r with
  | .error _ => []
  | .ok x => x.1
def lkS (r : Except (Int × Nat) (List UInt8 × List Sy)) : List Sy := match r with
  | .error _ => []
  | .ok x => x.2
def lkN (base : Int) (r : Except (Int × Nat) (List UInt8 × List Sy)) : Int := match r with
  | .error _ => 0
  | .ok _ => base
def lkX (r : Except (Int × Nat) (List UInt8 × List Sy)) : Int := match r with
  | .error x => x.1
  | .ok _ => 0
def lkA (r : Except (Int × Nat) (List UInt8 × List Sy)) : Int := match r with
  | .error x => (x.2 : Int)
  | .ok _ => 0
theorem link_tells {w0 w : World} {base : Int} {r : Except (Int × Nat) (List UInt8 × List Sy)} {e : Ending} (h : LinkEnd w0 base r e w) : Below w0.heap.size w0 w ∧ ∃ ba bc sa sc, e = .returned (.tuple #[.agg #[.int .i64 (lkN base r), .slice ba (lkB r).length bc, .slice sa (lkS r).length sc], .agg #[.int .i64 (lkX r), .int .i64 (lkA r)]]) ∧ OBytes w (.slice ba (lkB r).length bc) (lkB r) ∧ OSyms w (.slice sa (lkS r).length sc) (lkS r) := by
  obtain ⟨hb, h⟩ := h
  refine ⟨hb, ?_⟩
  unfold lkB lkS lkN lkX lkA
  cases r with
  | error x => exact ⟨none, 0, none, 0, h, ⟨none, 0, rfl, Nat.zero_le _, fun h0 => absurd h0 (by simp)⟩, ⟨none, 0, rfl, ⟨Nat.zero_le _, Nat.zero_le _⟩, fun h0 => absurd h0 (by simp)⟩⟩
  | ok x =>
    obtain ⟨bv, sv, rfl, h1, h2⟩ := h
    obtain ⟨ba, bc, rfl, _⟩ := id h1
    obtain ⟨sa, sc, rfl, _⟩ := id h2
    exact ⟨ba, bc, sa, sc, rfl, h1, h2⟩

/-- The boxes of an image and of a fault, one behind the other. -/
structure IF (w : World) (N : Nat) (a b : Array Value) : Prop where
  b0 : w.heap[N]? = some (.cells a 38 (0, 0))
  b1 : w.heap[N + 1]? = some (.cells b 40 (0, 0))
theorem IF.new (w : World) (a b : Array Value) : IF ((w.alloc (.cells a 38)).alloc (.cells b 40)) w.heap.size a b := by
  refine ⟨?_, ?_⟩
  · rw [(oalloc _ _).block _ (by simp)]; exact blk_new w _ _
  · have e : (w.alloc (.cells a 38)).heap.size = w.heap.size + 1 := by simp
    rw [← e]
    exact blk_new _ _ _
theorem IF.go {w w' : World} {N : Nat} {a b : Array Value} (h : IF w N a b) (hb : Below w.heap.size w w') : IF w' N a b :=
  ⟨by rw [hb.block _ (Array.getElem?_eq_some_iff.1 h.b0).1]; exact h.b0, by rw [hb.block _ (Array.getElem?_eq_some_iff.1 h.b1).1]; exact h.b1⟩
theorem two (w : World) (x y : Obj) : Below w.heap.size w ((w.alloc x).alloc y) := (oalloc w x).alloc (by simp) y
theorem nextB {w w1 w2 : World} (h : Below w.heap.size w w1) (k : Below w1.heap.size w1 w2) : Below w.heap.size w w2 := h.trans (k.mono h.size)

set_option maxRecDepth 100000 in
set_option maxHeartbeats 8000000 in
theorem tells7_any (l : List Ob) (v : Value) (base : Int) (w : World) (hv : OObs w v l) (hnl : ∀ o, o ∈ l → ∀ x, x ∈ o.syms → x.name.length ≤ maxLen) (hl8 : l.length * 8 ≤ 140737488355328) :
    Calls Try.prog 4 #[v, .int .i64 base] w fun e w' => e = .returned (.bool true) ∧ Below w.heap.size w w' := by
  have HV := Lib.hid hv
  have HA := Lib.hid (link_any l v base w hv hnl)
  have HR := Lib.hid (fun (X : World) (hb : Below w.heap.size w X) => rlink_any l v base X (hv.below hb (Nat.le_refl _)))
  have HB1 := Lib.hid (fun (X : World) (hb : Below w.heap.size w X) (h0 : 0 ≤ base) (h1 : base ≤ 1000000000) => basesW_any l v base X (hv.below hb (Nat.le_refl _)) (by omega) (by omega) hl8)
  have HB2 := Lib.hid (fun (X : World) (hb : Below w.heap.size w X) (h0 : 0 ≤ base) (h1 : base ≤ 1000000000) => rbasesW_any l v base X (hv.below hb (Nat.le_refl _)) (by omega) (by omega) hl8)
  obtain ⟨ad, cap, rfl, hm, hc⟩ := id hv
  unfold maxLen at hm
  clear hc hv hnl
  obtain ⟨r, hr⟩ : ∃ r, r = linkL nameR l base := ⟨_, rfl⟩
  rw [← hr] at HA HR
  clear hr
  obtain ⟨B, hB⟩ : ∃ B, B = lkN base r := ⟨_, rfl⟩
  obtain ⟨x, hx⟩ : ∃ x, x = lkX r := ⟨_, rfl⟩
  obtain ⟨a, ha⟩ : ∃ a, a = lkA r := ⟨_, rfl⟩
  obtain ⟨b, hb⟩ : ∃ b, b = lkB r := ⟨_, rfl⟩
  obtain ⟨s, hs⟩ : ∃ s, s = lkS r := ⟨_, rfl⟩
  have HT := Lib.hid (fun (X Y : World) e (h : LinkEnd X base r e Y) => link_tells h)
  rw [← hB, ← hx, ← ha, ← hb, ← hs] at HT
  clear hB hx ha hb hs
  go_enter Try.func4, Try.ntmps4
  by_cases h0 : base < 0
  · go_wp2_with (first | (go_at_call 10; refine HA.out.mono ?_; intro e w1 h1; obtain ⟨hb1, ba, bc, sa, sc, rfl, ho1, hs1⟩ := HT.out w w1 e h1; have HK1 := Lib.hid hb1; have HO1 := Lib.hid ho1; have HS1 := Lib.hid hs1; clear h1 hb1 ho1 hs1) | (go_at_call 11; refine (HR.out _ (nextB HK1.out (two w1 (.cells #[.int .i64 B, .slice ba b.length bc, .slice sa s.length sc] 38) (.cells #[.int .i64 x, .int .i64 a] 40)))).mono ?_; intro e w3 h3; obtain ⟨hb3, ba3, bc3, sa3, sc3, rfl, ho3, hs3⟩ := HT.out _ w3 e h3; have HK3 := Lib.hid (nextB (nextB HK1.out (two w1 (.cells #[.int .i64 B, .slice ba b.length bc, .slice sa s.length sc] 38) (.cells #[.int .i64 x, .int .i64 a] 40))) hb3); have HO3 := Lib.hid (And.intro (HO1.out.below (nextB (two w1 _ _) hb3) (Nat.le_refl _)) (HS1.out.below (nextB (two w1 _ _) hb3) (Nat.le_refl _))); have HO4 := Lib.hid (And.intro ho3 hs3); have hif := (IF.new w1 #[.int .i64 B, .slice ba b.length bc, .slice sa s.length sc] #[.int .i64 x, .int .i64 a]).go hb3; have n0 : w3.cell? ⟨w1.heap.size, 0, none⟩ = some (.int .i64 B) := blk_cell hif.b0 rfl; have n1 : w3.cell? ⟨w1.heap.size, 1, none⟩ = some (.slice ba b.length bc) := blk_cell hif.b0 rfl; have n2 : w3.cell? ⟨w1.heap.size, 2, none⟩ = some (.slice sa s.length sc) := blk_cell hif.b0 rfl; have n3 : w3.cell? ⟨w1.heap.size + 1, 0, none⟩ = some (.int .i64 x) := blk_cell hif.b1 rfl; have n4 : w3.cell? ⟨w1.heap.size + 1, 1, none⟩ = some (.int .i64 a) := blk_cell hif.b1 rfl; have hz3 : w1.heap.size + 1 < w3.heap.size := (Array.getElem?_eq_some_iff.1 hif.b1).1; have hz4 : w1.heap.size < w3.heap.size := Nat.lt_of_succ_lt hz3; clear h3 hb3 ho3 hs3 hif) | (go_at_call 12; refine (simg_any B b s _ _ _ _ _ (HO3.out.1.below (two w3 _ _) (Nat.le_refl _)) (HO3.out.2.below (two w3 _ _) (Nat.le_refl _)) (HO4.out.1.below (two w3 _ _) (Nat.le_refl _)) (HO4.out.2.below (two w3 _ _) (Nat.le_refl _))).mono ?_; rintro e w5 ⟨rfl, hb5⟩; have HK5 := Lib.hid (nextB (nextB HK3.out (two w3 _ _)) hb5); clear hb5) | fail)
    go_ret
    exact ⟨rfl, HK5.out⟩
  · by_cases h1 : 1000000000 < base
    · go_wp2_with (first | (go_at_call 10; refine HA.out.mono ?_; intro e w1 h1; obtain ⟨hb1, ba, bc, sa, sc, rfl, ho1, hs1⟩ := HT.out w w1 e h1; have HK1 := Lib.hid hb1; have HO1 := Lib.hid ho1; have HS1 := Lib.hid hs1; clear h1 hb1 ho1 hs1) | (go_at_call 11; refine (HR.out _ (nextB HK1.out (two w1 (.cells #[.int .i64 B, .slice ba b.length bc, .slice sa s.length sc] 38) (.cells #[.int .i64 x, .int .i64 a] 40)))).mono ?_; intro e w3 h3; obtain ⟨hb3, ba3, bc3, sa3, sc3, rfl, ho3, hs3⟩ := HT.out _ w3 e h3; have HK3 := Lib.hid (nextB (nextB HK1.out (two w1 (.cells #[.int .i64 B, .slice ba b.length bc, .slice sa s.length sc] 38) (.cells #[.int .i64 x, .int .i64 a] 40))) hb3); have HO3 := Lib.hid (And.intro (HO1.out.below (nextB (two w1 _ _) hb3) (Nat.le_refl _)) (HS1.out.below (nextB (two w1 _ _) hb3) (Nat.le_refl _))); have HO4 := Lib.hid (And.intro ho3 hs3); have hif := (IF.new w1 #[.int .i64 B, .slice ba b.length bc, .slice sa s.length sc] #[.int .i64 x, .int .i64 a]).go hb3; have n0 : w3.cell? ⟨w1.heap.size, 0, none⟩ = some (.int .i64 B) := blk_cell hif.b0 rfl; have n1 : w3.cell? ⟨w1.heap.size, 1, none⟩ = some (.slice ba b.length bc) := blk_cell hif.b0 rfl; have n2 : w3.cell? ⟨w1.heap.size, 2, none⟩ = some (.slice sa s.length sc) := blk_cell hif.b0 rfl; have n3 : w3.cell? ⟨w1.heap.size + 1, 0, none⟩ = some (.int .i64 x) := blk_cell hif.b1 rfl; have n4 : w3.cell? ⟨w1.heap.size + 1, 1, none⟩ = some (.int .i64 a) := blk_cell hif.b1 rfl; have hz3 : w1.heap.size + 1 < w3.heap.size := (Array.getElem?_eq_some_iff.1 hif.b1).1; have hz4 : w1.heap.size < w3.heap.size := Nat.lt_of_succ_lt hz3; clear h3 hb3 ho3 hs3 hif) | (go_at_call 12; refine (simg_any B b s _ _ _ _ _ (HO3.out.1.below (two w3 _ _) (Nat.le_refl _)) (HO3.out.2.below (two w3 _ _) (Nat.le_refl _)) (HO4.out.1.below (two w3 _ _) (Nat.le_refl _)) (HO4.out.2.below (two w3 _ _) (Nat.le_refl _))).mono ?_; rintro e w5 ⟨rfl, hb5⟩; have HK5 := Lib.hid (nextB (nextB HK3.out (two w3 _ _)) hb5); clear hb5) | fail)
      go_ret
      exact ⟨rfl, HK5.out⟩
    · go_wp2_with (first | (go_at_call 10; refine HA.out.mono ?_; intro e w1 h1; obtain ⟨hb1, ba, bc, sa, sc, rfl, ho1, hs1⟩ := HT.out w w1 e h1; have HK1 := Lib.hid hb1; have HO1 := Lib.hid ho1; have HS1 := Lib.hid hs1; clear h1 hb1 ho1 hs1) | (go_at_call 11; refine (HR.out _ (nextB HK1.out (two w1 (.cells #[.int .i64 B, .slice ba b.length bc, .slice sa s.length sc] 38) (.cells #[.int .i64 x, .int .i64 a] 40)))).mono ?_; intro e w3 h3; obtain ⟨hb3, ba3, bc3, sa3, sc3, rfl, ho3, hs3⟩ := HT.out _ w3 e h3; have HK3 := Lib.hid (nextB (nextB HK1.out (two w1 (.cells #[.int .i64 B, .slice ba b.length bc, .slice sa s.length sc] 38) (.cells #[.int .i64 x, .int .i64 a] 40))) hb3); have HO3 := Lib.hid (And.intro (HO1.out.below (nextB (two w1 _ _) hb3) (Nat.le_refl _)) (HS1.out.below (nextB (two w1 _ _) hb3) (Nat.le_refl _))); have HO4 := Lib.hid (And.intro ho3 hs3); have hif := (IF.new w1 #[.int .i64 B, .slice ba b.length bc, .slice sa s.length sc] #[.int .i64 x, .int .i64 a]).go hb3; have n0 : w3.cell? ⟨w1.heap.size, 0, none⟩ = some (.int .i64 B) := blk_cell hif.b0 rfl; have n1 : w3.cell? ⟨w1.heap.size, 1, none⟩ = some (.slice ba b.length bc) := blk_cell hif.b0 rfl; have n2 : w3.cell? ⟨w1.heap.size, 2, none⟩ = some (.slice sa s.length sc) := blk_cell hif.b0 rfl; have n3 : w3.cell? ⟨w1.heap.size + 1, 0, none⟩ = some (.int .i64 x) := blk_cell hif.b1 rfl; have n4 : w3.cell? ⟨w1.heap.size + 1, 1, none⟩ = some (.int .i64 a) := blk_cell hif.b1 rfl; have hz3 : w1.heap.size + 1 < w3.heap.size := (Array.getElem?_eq_some_iff.1 hif.b1).1; have hz4 : w1.heap.size < w3.heap.size := Nat.lt_of_succ_lt hz3; clear h3 hb3 ho3 hs3 hif) | (go_at_call 12; refine (simg_any B b s _ _ _ _ _ (HO3.out.1.below (two w3 _ _) (Nat.le_refl _)) (HO3.out.2.below (two w3 _ _) (Nat.le_refl _)) (HO4.out.1.below (two w3 _ _) (Nat.le_refl _)) (HO4.out.2.below (two w3 _ _) (Nat.le_refl _))).mono ?_; rintro e w5 ⟨rfl, hb5⟩; have HK5 := Lib.hid (nextB (nextB HK3.out (two w3 _ _)) hb5); clear hb5) | (go_at_call 13; refine (HB1.out _ HK5.out (by omega) (by omega)).mono ?_; rintro e w6 ⟨rfl, hb6, hr6⟩; have HK6 := Lib.hid (nextB HK5.out hb6); have HI6 := Lib.hid hr6; clear hb6 hr6) | (go_at_call 14; refine (HB2.out _ HK6.out (by omega) (by omega)).mono ?_; rintro e w7 ⟨xr, rfl, hb7, hr7⟩; obtain ⟨ra, rc, hxr⟩ := row_shape hr7; subst hxr; have HK7 := Lib.hid (nextB HK6.out hb7); have HI7 := Lib.hid (HI6.out.go (hb7.block _ HI6.out.lt)); have HX7 := Lib.hid hr7; clear hb7 hr7) | fail)
      go_loopw [65] (fun i wr => ∃ k : Nat, k ≤ l.length ∧ i = .int .i64 k ∧ Hid (Below w7.heap.size w7 wr)) (fun i _ => l.length - (intOf i).toNat)
      case atStart => exact ⟨0, Nat.zero_le _, rfl, Below.refl _ _⟩
      case round =>
        obtain ⟨k, hk, rfl, HKW⟩ := hrel
        by_cases hlt : k < l.length
        · have hk1 : (k : Int) < l.length := by omega
          obtain ⟨g, cp, hg, hgl, hgc⟩ := ints_read HX7.out (by omega) (basesW_len l base)
          cases hg
          have y0 := hgc k (by rw [basesW_len]; exact hlt)
          rw [basesW_at l base k hlt, ← HKW.out.cell (by exact hgl)] at y0
          have y1 := (HI7.out.cell hlt).1
          rw [if_pos hlt, ← HKW.out.cell (by exact HI7.out.lt)] at y1
          generalize upW (endW base (l.take k)) = A at *
          have HKD : Hid (∀ n, Below w7.heap.size w7 (wr.drewN n)) := fun n => HKW.out.trans ((Go.Joins.below_draws _ _ _ : Below wr.heap.size wr (wr.drewN n)).mono HKW.out.size)
          clear hgc HKW
          go_wp2
          go_quiet (fail)
          clear y0 y1
          generalize hwy : World.drewN wr _ = wy
          have HKY : Hid (Below w7.heap.size w7 wy) := hwy ▸ HKD.out _
          clear hwy HKD
          go_wp2
          exact ⟨⟨k + 1, by omega, by go_num, HKY⟩, by simp [intOf]; omega⟩
        · have hk1 : ¬ (k : Int) < l.length := by omega
          go_wp2
          go_ret
          exact ⟨rfl, nextB HK7.out HKW.out⟩

end Go.Proofs.Ytalghejeekajgad
