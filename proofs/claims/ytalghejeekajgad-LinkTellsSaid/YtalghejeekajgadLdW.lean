/- Where objects begin, whatever the numbers: the document's own Bases, and the program's. -/
import Derived.Test.YtalghejeekajgadLkE
namespace Go.Proofs.Ytalghejeekajgad
open Go.RowKit

/-- The next multiple of four, of numbers of 64 bits. -/
def upW (n : Int) : Int := wrap64 (up4 n)
def basesW : Int → List Ob → List Int
  | _, [] => []
  | b, o :: r => upW b :: basesW (wrap64 (upW b + o.code.length)) r
def endW : Int → List Ob → Int
  | b, [] => b
  | b, o :: r => endW (wrap64 (upW b + o.code.length)) r
theorem basesW_len (l : List Ob) : ∀ b : Int, (basesW b l).length = l.length := by
  induction l with
  | nil => intro b; rfl
  | cons o r ih => intro b; simp [basesW, ih]
theorem basesW_snoc (l : List Ob) (o : Ob) : ∀ b : Int, basesW b (l ++ [o]) = basesW b l ++ [upW (endW b l)] := by
  induction l with
  | nil => intro b; rfl
  | cons x r ih => intro b; simp [basesW, endW, ih]
theorem endW_snoc (l : List Ob) (o : Ob) : ∀ b : Int, endW b (l ++ [o]) = wrap64 (upW (endW b l) + o.code.length) := by
  induction l with
  | nil => intro b; rfl
  | cons x r ih => intro b; simp [endW, ih]
theorem basesW_take (l : List Ob) (b : Int) (k : Nat) (hk : k < l.length) : basesW b (l.take (k + 1)) = basesW b (l.take k) ++ [upW (endW b (l.take k))] := by
  rw [take_snoc l hk, basesW_snoc]
theorem endW_take (l : List Ob) (b : Int) (k : Nat) (hk : k < l.length) : endW b (l.take (k + 1)) = wrap64 (upW (endW b (l.take k)) + l[k].code.length) := by
  rw [take_snoc l hk, endW_snoc]
theorem basesW_at (l : List Ob) : ∀ (b : Int) (k : Nat) (hk : k < l.length), (basesW b l)[k]'(by rw [basesW_len]; exact hk) = upW (endW b (l.take k)) := by
  induction l with
  | nil => intro b k hk; simp at hk
  | cons o r ih =>
    intro b k hk
    cases k with
    | zero => rfl
    | succ k => simp only [basesW, List.getElem_cons_succ, List.take_succ_cons, endW]; exact ih _ k (by simpa using hk)
theorem in64 (n : Int) : -9223372036854775808 ≤ wrap64 n ∧ wrap64 n ≤ 9223372036854775807 := by unfold wrap64; omega
theorem wrap64_in {n : Int} (h0 : -9223372036854775808 ≤ n) (h1 : n ≤ 9223372036854775807) : wrap64 n = n := by unfold wrap64; omega
theorem endW_in (l : List Ob) : ∀ b : Int, -9223372036854775808 ≤ b → b ≤ 9223372036854775807 → -9223372036854775808 ≤ endW b l ∧ endW b l ≤ 9223372036854775807 := by
  induction l with
  | nil => intro b h0 h1; exact ⟨h0, h1⟩
  | cons o r ih => intro b _ _; exact ih _ (in64 _).1 (in64 _).2
theorem basesW_eq (l : List Ob) : ∀ b : Int, 0 ≤ b → endL b l ≤ 4611686018427387904 → basesW b l = basesL b l ∧ endW b l = endL b l := by
  induction l with
  | nil => intro b _ _; exact ⟨rfl, rfl⟩
  | cons o r ih =>
    intro b h0 h1
    have hu := up4_le b
    have hge := endL_ge r (up4 b + o.code.length)
    simp only [endL] at h1
    have e1 : upW b = up4 b := by unfold upW wrap64; omega
    have e2 : wrap64 (up4 b + o.code.length) = up4 b + o.code.length := by unfold wrap64; omega
    simp only [basesW, endW, basesL, endL, e1, e2]
    obtain ⟨h2, h3⟩ := ih _ (by omega) h1
    exact ⟨by rw [h2], h3⟩
theorem upW_of {n : Int} (h : n % 4 = 0) (h0 : -9223372036854775808 ≤ n) (h1 : n ≤ 9223372036854775807) : upW n = n := by
  unfold upW; rw [up4_of h, wrap64_in h0 h1]
theorem upW_next {n : Int} (h : n % 4 ≠ 0) : upW (wrap64 (n + 1)) = upW n := by
  unfold upW up4 wrap64; omega
theorem tmod4 (n : Int) : n.tmod 4 = 0 ↔ n % 4 = 0 := ⟨fun h => Int.emod_eq_zero_of_dvd (Int.dvd_of_tmod_eq_zero h), fun h => Int.tmod_eq_zero_of_dvd (Int.dvd_of_emod_eq_zero h)⟩
theorem rupW_any (n : Int) (w : World) (h0 : -9223372036854775808 ≤ n) (h1 : n ≤ 9223372036854775807) :
    Calls Try.prog 35 #[.int .i64 n, .int .i64 4] w fun e w' => e = .returned (.int .i64 (upW n)) ∧ w' = w := by
  go_enter Try.func35, Try.ntmps35
  go_wp2
  go_loop [0] (fun i => ∃ m : Int, i = .int .i64 m ∧ -9223372036854775808 ≤ m ∧ m ≤ 9223372036854775807 ∧ Hid (upW m = upW n)) (fun i => ((-(intOf i)) % 4).toNat)
  case atStart => exact ⟨n, rfl, h0, h1, rfl⟩
  case round =>
    obtain ⟨m, rfl, hm0, hm1, HM⟩ := hrel
    by_cases hz : m % 4 = 0
    · have he := upW_of hz hm0 hm1
      have HE := Lib.hid (he.symm.trans HM.out)
      have hz2 : m.tmod 4 = 0 := (tmod4 m).2 hz
      clear he HM
      go_wp2
      go_ret
      exact ⟨ret_int HE.out, rfl⟩
    · have HN := Lib.hid ((upW_next hz).trans HM.out)
      have hz2 : (m.tmod 4 != 0) = true := by simpa using fun h => hz ((tmod4 m).1 h)
      have HZ := Lib.hid hz
      clear HM hz
      go_wp2
      exact ⟨⟨_, rfl, (in64 _).1, (in64 _).2, HN⟩, by have := HZ.out; simp only [intOf, wrap64]; omega⟩

set_option maxHeartbeats 1000000 in
theorem rbasesW_any (l : List Ob) (v : Value) (base : Int) (w : World) (hv : OObs w v l) (h0 : -9223372036854775808 ≤ base) (h1 : base ≤ 9223372036854775807) (hl : l.length * 8 ≤ 140737488355328) :
    Calls Try.prog 14 #[v, .int .i64 base] w fun e w' => ∃ x, e = .returned (.tuple #[x, .int .i64 (endW base l)]) ∧ Below w.heap.size w w' ∧ w'.ownsRow w.heap.size 3 1 x l.length (icells (basesW base l)) := by
  obtain ⟨i0, hi, hz0, hz1, hz2⟩ := info3'
  obtain ⟨ad, cap, rfl, hm, hc⟩ := hv
  have HC := Lib.hid hc
  unfold maxLen at hm
  clear hc
  have HIN := Lib.hid (fun k => endW_in (l.take k) base h0 h1)
  go_enter Try.func14, Try.ntmps14
  go_wp2
  go_loopw [1, 6, 11] (fun b x i wr => ∃ k : Nat, k ≤ l.length ∧ i = .int .i64 k ∧ b = .int .i64 (endW base (l.take k)) ∧ Hid (Below w.heap.size w wr) ∧ Hid (wr.ownsRow w.heap.size 3 1 x k (icells (basesW base (l.take k))))) (fun _ _ i _ => l.length - (intOf i).toNat)
  case atStart => exact ⟨0, Nat.zero_le _, rfl, rfl, Below.refl _ _, World.ownsRow_nil _ _ _ _⟩
  case round =>
    obtain ⟨k, hk, rfl, rfl, HB, HO⟩ := hrel
    obtain ⟨x, rfl⟩ : ∃ x, x = u6 := ⟨_, rfl⟩
    by_cases hlt : k < l.length
    · have hk1 : (k : Int) < l.length := by omega
      obtain ⟨b, f, rfl, hbl, hcell⟩ := HC.out (by omega)
      obtain ⟨c, s, r, c0, c1, c2, hin⟩ := hcell k hlt
      rw [← HB.out.cell (by exact hbl)] at c0 c1 c2
      have hbw : b < wr.heap.size := Nat.lt_of_lt_of_le hbl HB.out.size
      obtain ⟨q1, q2, rfl, hcl, q3⟩ := hin.1
      obtain ⟨q4, q5, rfl, q6⟩ := hin.2.1
      obtain ⟨q7, q8, rfl, q9⟩ := hin.2.2
      clear q3 q6 q9 hin hcell
      unfold maxLen at hcl
      have HE := Lib.hid (endW_take l base k hlt)
      have HBS := Lib.hid (basesW_take l base k hlt)
      have HRU := Lib.hid (fun W => rupW_any (endW base (l.take k)) W (HIN.out k).1 (HIN.out k).2)
      generalize hn : endW base (l.take k) = n at *
      generalize hm' : upW n = m at *
      have HK := Lib.hid (fun (w2 : World) (h2 : w2 = wr.alloc (.cells #[.slice q1 l[k].code.length q2, .slice q4 l[k].syms.length q5, .slice q7 l[k].rels.length q8] 26)) =>
        (show Below w.heap.size w w2 ∧ w2.ownsRow w.heap.size 3 1 x k (icells (basesW base (l.take k))) ∧ (∀ j, x.ownBlock = some j → w.heap.size ≤ j ∧ j < wr.heap.size) ∧ wr.heap.size < w2.heap.size ∧ w2.cell? ⟨wr.heap.size, 0, none⟩ = some (.slice q1 l[k].code.length q2) by
          subst h2
          exact ⟨Below.alloc HB.out HB.out.size _, HO.out.alloc _, HO.out.lt, by simp, by rw [World.cell?_alloc_new]; rfl⟩))
      clear HO HB
      have h63 : k + 1 ≤ maxLen := by unfold maxLen; omega
      have hby : (k + 1) * 8 ≤ 140737488355328 := by omega
      go_wp2_with (first
        | (go_at_call 35; refine (HRU.out _).mono ?_; rintro e w2 ⟨rfl, hw2⟩; obtain ⟨hb2, ho2, hlt2, hz2', x0⟩ := HK.out w2 hw2; have HL2 := Lib.hid hlt2; have HO2 := Lib.hid ho2; have HB2 := Lib.hid hb2; clear hw2 ho2 hb2 hlt2 HK)
        | (at_builtin; refine wpList_append_own _ rfl _ _ 44 rfl w.heap.size 3 i0 _ 1 8 Try.underlying44 hi hz0 hz1 hz2 rfl (by decide) _ _ _ rfl (HO2.out.alloc _) ⟨w2.heap.size, 0, none⟩ 1 1 [.int .i64 m] rfl rfl (new1 _ _ _) (one1 _) h63 hby (by simp; have := HB2.out.size; omega) ?_)
        | go_in)
      · intro v' w3 hown3 hgrow _
        have HO3 := Lib.hid hown3
        have HB3 := Lib.hid ((HB2.out.alloc HB2.out.size (.cells #[.int .i64 m] 3)).grown hgrow (by simp; have := HB2.out.size; omega) (fun j hj => (HL2.out j hj).1))
        have x3 : w3.cell? ⟨wr.heap.size, 0, none⟩ = some (.slice q1 l[k].code.length q2) := by
          rw [← x0]
          exact (World.cell?_of_block (hgrow.block wr.heap.size (by simp; omega) (by intro e; have := (HL2.out _ e.symm).2; omega))).trans ((oalloc w2 _).cell (by exact hz2'))
        clear hown3 hgrow x0
        go_wp2
        exact ⟨⟨k + 1, by omega, by go_num, by rw [HE.out], HB3, by rw [HBS.out, icells_app]; exact HO3⟩, by simp [intOf]; omega⟩
    · have hk1 : ¬ (k : Int) < l.length := by omega
      obtain rfl : k = l.length := by omega
      rw [List.take_length] at HO ⊢
      go_wp2
      go_ret2
      exact ⟨x, rfl, HB.out, HO.out⟩

theorem and3 (n : Int) : bits .and .i64 n 3 = n % 4 := by
  have h3 : (BitVec.ofInt 64 3).toNat = 2 ^ 2 - 1 := by decide
  have key : (BitVec.ofInt 64 n &&& BitVec.ofInt 64 3).toNat = (n % ((2 ^ 64 : Nat) : Int)).toNat % 2 ^ 2 := by
    rw [BitVec.toNat_and, BitVec.toNat_ofInt, h3, Nat.and_two_pow_sub_one_eq_mod]
  show IntKind.i64.wrap ((BitVec.ofInt 64 n &&& BitVec.ofInt 64 3).toNat : Nat) = n % 4
  rw [key, IntKind.wrap_i64]
  omega
theorem up_eq (n : Int) : wrap64 (n + bits .and .i64 (wrap64 (-n)) 3) = upW n := by
  rw [and3]; unfold upW up4 wrap64; omega

/-- A row of numbers that was made with noughts, of which the first ones are told. -/
def IRow (W : World) (g n k : Nat) (B : Nat → Int) : Prop := ∃ cs : Array Value, W.heap[g]? = some (.cells cs 3 (0, 0)) ∧ cs.size = n ∧ ∀ i, i < n → cs[i]? = some (.int .i64 (if i < k then B i else 0))
theorem IRow.new (w : World) (n : Nat) (B : Nat → Int) : IRow (w.alloc (.cells (madeCells #[.int .i64 0] n) 3)) w.heap.size n 0 B := by
  refine ⟨_, blk_new _ _ _, size_madeCells _ _, fun i hi => ?_⟩
  simp [madeCells, hi, Nat.mod_one]
theorem IRow.put {W : World} {g n k : Nat} {B : Nat → Int} (h : IRow W g n k B) : IRow (W.setCell ⟨g, k, none⟩ (.int .i64 (B k))) g n (k + 1) B := by
  obtain ⟨cs, hb, hs, hc⟩ := h
  refine ⟨_, _root_.Go.heap_setCell_same W g k cs 3 _ hb, by simpa using hs, fun i hi => ?_⟩
  by_cases h : k = i
  · subst h
    rw [Array.getElem?_setIfInBounds_self, if_pos (by omega), if_pos (by omega)]
  · rw [Array.getElem?_setIfInBounds_ne h, hc i hi]
    by_cases h2 : i < k
    · rw [if_pos h2, if_pos (by omega)]
    · rw [if_neg h2, if_neg (by omega)]
theorem IRow.cell {W : World} {g n k : Nat} {B : Nat → Int} (h : IRow W g n k B) {i : Nat} (hi : i < n) : W.cell? ⟨g, i, none⟩ = some (.int .i64 (if i < k then B i else 0)) ∧ W.frozen? ⟨g, i, none⟩ = false := by
  obtain ⟨cs, hb, hs, hc⟩ := h
  exact ⟨blk_cell hb (hc i hi), blk_froz hb⟩
theorem IRow.go {W W' : World} {g n k : Nat} {B : Nat → Int} (h : IRow W g n k B) (hb : W'.heap[g]? = W.heap[g]?) : IRow W' g n k B := by
  obtain ⟨cs, h1, h2⟩ := h
  exact ⟨cs, hb.trans h1, h2⟩
theorem IRow.lt {W : World} {g n k : Nat} {B : Nat → Int} (h : IRow W g n k B) : g < W.heap.size := by
  obtain ⟨cs, h1, h2⟩ := h
  exact (Array.getElem?_eq_some_iff.1 h1).1

set_option maxHeartbeats 1000000 in
theorem basesW_any (l : List Ob) (v : Value) (base : Int) (w : World) (hv : OObs w v l) (h0 : -9223372036854775808 ≤ base) (h1 : base ≤ 9223372036854775807) (hl : l.length * 8 ≤ 140737488355328) :
    Calls Try.prog 13 #[v, .int .i64 base] w fun e w' => e = .returned (.tuple #[.slice (some ⟨w.heap.size, 0, none⟩) l.length l.length, .int .i64 (endW base l)]) ∧ Below w.heap.size w w' ∧ IRow w' w.heap.size l.length l.length (fun i => upW (endW base (l.take i))) := by
  have hmk := run_make_row' (P := Try.prog) 44 3 (.int .i64 0) 8 Try.underlying44 info3 rfl .i64 .i64 l.length (by omega) (by omega)
  obtain ⟨ad, cap, rfl, hm, hc⟩ := hv
  have HC := Lib.hid hc
  unfold maxLen at hm
  clear hc
  have HIN := Lib.hid (fun k => endW_in (l.take k) base h0 h1)
  have HR0 := Lib.hid (IRow.new w l.length (fun i => upW (endW base (l.take i))))
  have HB0 := Lib.hid (oalloc w (.cells (madeCells #[.int .i64 0] l.length) 3))
  go_enter Try.func13, Try.ntmps13
  go_wp2
  go_loopw [7, 16] (fun b i wr => ∃ k : Nat, k ≤ l.length ∧ i = .int .i64 k ∧ b = .int .i64 (endW base (l.take k)) ∧ Hid (Below w.heap.size w wr) ∧ Hid (IRow wr w.heap.size l.length k (fun i => upW (endW base (l.take i))))) (fun _ i _ => l.length - (intOf i).toNat)
  case atStart => exact ⟨0, Nat.zero_le _, rfl, rfl, HB0, HR0⟩
  case round =>
    obtain ⟨k, hk, rfl, rfl, HB, HR⟩ := hrel
    clear HB0 HR0 hmk
    by_cases hlt : k < l.length
    · have hk1 : (k : Int) < l.length := by omega
      obtain ⟨b, f, rfl, hbl, hcell⟩ := HC.out (by omega)
      obtain ⟨c, s, r, c0, c1, c2, hin⟩ := hcell k hlt
      rw [← HB.out.cell (by exact hbl)] at c0 c1 c2
      have hbw : b < wr.heap.size := Nat.lt_of_lt_of_le hbl HB.out.size
      obtain ⟨q1, q2, rfl, hcl, q3⟩ := hin.1
      obtain ⟨q4, q5, rfl, q6⟩ := hin.2.1
      obtain ⟨q7, q8, rfl, q9⟩ := hin.2.2
      clear q3 q6 q9 hin hcell
      unfold maxLen at hcl
      have HE := Lib.hid (endW_take l base k hlt)
      have HU := Lib.hid (up_eq (endW base (l.take k)))
      have HI := Lib.hid (HIN.out k)
      have hr := (HR.out.go ((oalloc wr (.cells #[.slice q1 l[k].code.length q2, .slice q4 l[k].syms.length q5, .slice q7 l[k].rels.length q8] 26)).block _ HR.out.lt))
      obtain ⟨y0, y1⟩ := hr.cell hlt
      rw [if_neg (by omega)] at y0
      have HR2 : Hid (IRow ((wr.setCell ⟨w.heap.size, k, none⟩ (.int .i64 (wrap64 (endW base (l.take k) + bits .and .i64 (wrap64 (-endW base (l.take k))) 3)))).alloc (.cells #[.slice q1 l[k].code.length q2, .slice q4 l[k].syms.length q5, .slice q7 l[k].rels.length q8] 26)) w.heap.size l.length (k + 1) (fun i => upW (endW base (l.take i)))) := by
        unfold Hid; rw [HU.out]; exact HR.out.put.go ((oalloc _ _).block _ HR.out.put.lt)
      have hgw := HR.out.lt
      have hne : wr.heap.size ≠ w.heap.size := by omega
      have HB2 : Hid (∀ x o, Below w.heap.size w ((wr.setCell ⟨w.heap.size, k, none⟩ x).alloc o)) := fun x o => (HB.out.setCell (p := ⟨w.heap.size, k, none⟩) (Nat.le_refl w.heap.size) x).alloc (by simpa using HB.out.size) o
      have HE2 : Hid (endW base (l.take (k + 1)) = wrap64 (wrap64 (endW base (l.take k) + bits .and .i64 (wrap64 (-endW base (l.take k))) 3) + l[k].code.length)) := by unfold Hid; rw [HU.out]; exact HE.out
      clear HR HB hr HE HU HI
      generalize endW base (l.take k) = n at *
      go_wp2
      exact ⟨⟨k + 1, by omega, by go_num, by rw [HE2.out], HB2.out _ _, HR2⟩, by simp [intOf]; omega⟩
    · have hk1 : ¬ (k : Int) < l.length := by omega
      obtain rfl : k = l.length := by omega
      rw [List.take_length] at *
      go_wp2
      go_ret2
      exact ⟨rfl, HB.out, HR.out⟩

end Go.Proofs.Ytalghejeekajgad
