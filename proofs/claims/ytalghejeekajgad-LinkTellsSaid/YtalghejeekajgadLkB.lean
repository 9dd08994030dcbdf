/- A list of objects in memory; the document's own Bases. -/
import Derived.Test.YtalghejeekajgadLkA
namespace Go.Proofs.Ytalghejeekajgad
open Go.RowKit

/-- An object's three slices. -/
def ObIn (w : World) (c s r : Value) (o : Ob) : Prop := OBytes w c o.code ∧ OSyms w s o.syms ∧ ORels w r o.rels
theorem ObIn.below {w w' : World} {B : Nat} {c s r : Value} {o : Ob} (h : ObIn w c s r o) (hb : Below B w w') (hB : w.heap.size ≤ B) : ObIn w' c s r o := ⟨h.1.below hb hB, h.2.1.below hb hB, h.2.2.below hb hB⟩

/-- The slice reads as objects. -/
def OObs (w : World) (v : Value) (l : List Ob) : Prop :=
  ∃ ad cap, v = .slice ad l.length cap ∧ l.length ≤ maxLen ∧ (0 < l.length → ∃ b o, ad = some ⟨b, o, none⟩ ∧ b < w.heap.size ∧ ∀ i (h : i < l.length),
    ∃ c s r, w.cell? ⟨b, o + i * 3, none⟩ = some c ∧ w.cell? ⟨b, o + i * 3 + 1, none⟩ = some s ∧ w.cell? ⟨b, o + i * 3 + 2, none⟩ = some r ∧ ObIn w c s r l[i])
theorem OObs.below {w w' : World} {B : Nat} {v : Value} {l : List Ob} (h : OObs w v l) (hb : Below B w w') (hB : w.heap.size ≤ B) : OObs w' v l := by
  obtain ⟨ad, cap, rfl, hm, hc⟩ := h
  refine ⟨ad, cap, rfl, hm, fun h0 => ?_⟩
  obtain ⟨b, o, rfl, hlt, hcell⟩ := hc h0
  refine ⟨b, o, rfl, Nat.lt_of_lt_of_le hlt hb.size, fun i hi => ?_⟩
  obtain ⟨c, s, r, h1, h2, h3, h4⟩ := hcell i hi
  refine ⟨c, s, r, ?_, ?_, ?_, h4.below hb hB⟩
  · rw [hb.cell (by show b < B; omega)]; exact h1
  · rw [hb.cell (by show b < B; omega)]; exact h2
  · rw [hb.cell (by show b < B; omega)]; exact h3

/-- Numbers, cell by cell. -/
def icells (l : List Int) : List Value := l.map (.int .i64 ·)
theorem icells_app (a b : List Int) : icells (a ++ b) = icells a ++ icells b := List.map_append
theorem info3 : (Try.prog.info? 3).map (fun i => (i.zero, i.size, i.bytes)) = some (some (.int .i64 0), 1, 8) := by kernel_rfl
theorem info3' : ∃ i, Try.prog.info? 3 = some i ∧ i.zero = some (.int .i64 0) ∧ i.size = 1 ∧ i.bytes = 8 := by
  obtain ⟨i, hi, hh⟩ := Option.map_eq_some_iff.1 info3
  simp only [Prod.mk.injEq] at hh
  exact ⟨i, hi, hh.1, hh.2.1, hh.2.2⟩
theorem new1 (w : World) (a : Value) (t : TypeId) : ∀ j u, [a][j]? = some u → (w.alloc (.cells #[a] t)).cell? ((⟨w.heap.size, 0, none⟩ : Addr).add j) = some u := by
  intro j u h
  cases j with
  | zero => simp only [List.getElem?_cons_zero, Option.some.injEq] at h; subst h; simp only [Addr.add, Nat.add_zero, ite_self]; rw [World.cell?_alloc_new]; rfl
  | succ j => simp at h
theorem one1 (n : Int) : ∀ u ∈ [Value.int .i64 n], u.oneCell' = true := by simp [Value.oneCell']

theorem endL_app (x y : List Ob) : ∀ b : Int, endL b (x ++ y) = endL (endL b x) y := by
  induction x with
  | nil => intro b; rfl
  | cons o r ih => intro b; simp [endL, ih]
theorem endL_upto (l : List Ob) (b : Int) (k : Nat) : endL b (l.take k) ≤ endL b l := by
  have h := endL_app (l.take k) (l.drop k) b
  rw [List.take_append_drop] at h
  rw [h]
  exact endL_ge _ _

set_option maxHeartbeats 1000000 in
theorem rbases_any (l : List Ob) (v : Value) (base : Int) (w : World) (hv : OObs w v l) (h0 : 0 ≤ base) (h1 : endL base l ≤ 4611686018427387904) (hl : l.length * 8 ≤ 140737488355328) :
    Calls Try.prog 14 #[v, .int .i64 base] w fun e w' => ∃ x, e = .returned (.tuple #[x, .int .i64 (endL base l)]) ∧ Below w.heap.size w w' ∧ w'.ownsRow w.heap.size 3 1 x l.length (icells (basesL base l)) := by
  obtain ⟨i0, hi, hz0, hz1, hz2⟩ := info3'
  obtain ⟨ad, cap, rfl, hm, hc⟩ := hv
  have HC := Lib.hid hc
  unfold maxLen at hm
  clear hc
  have HUP := Lib.hid (fun k => endL_upto l base k)
  go_enter Try.func14, Try.ntmps14
  go_wp2
  go_loopw [1, 6, 11] (fun b x i wr => ∃ k : Nat, k ≤ l.length ∧ i = .int .i64 k ∧ b = .int .i64 (endL base (l.take k)) ∧ Hid (Below w.heap.size w wr) ∧ Hid (wr.ownsRow w.heap.size 3 1 x k (icells (basesL base (l.take k))))) (fun _ _ i _ => l.length - (intOf i).toNat)
  case atStart => exact ⟨0, Nat.zero_le _, rfl, rfl, Below.refl _ _, World.ownsRow_nil _ _ _ _⟩
  case round =>
    obtain ⟨k, hk, rfl, rfl, HB, HO⟩ := hrel
    obtain ⟨x, rfl⟩ : ∃ x, x = u6 := ⟨_, rfl⟩
    by_cases hlt : k < l.length
    · have hk1 : (k : Int) < l.length := by omega
      obtain ⟨b, f, rfl, hbl, hcell⟩ := HC.out (by omega)
      obtain ⟨c, s, r, c0, c1, c2, hin⟩ := hcell k hlt
      rw [← HB.out.cell (by exact hbl)] at c0 c1 c2
      have hbw : b < wr.heap.size := Nat.lt_of_lt_of_le hbl HB.out.size
      obtain ⟨q1, q2, rfl, hcl, q3⟩ := hin.1
      obtain ⟨q4, q5, rfl, q6⟩ := hin.2.1
      obtain ⟨q7, q8, rfl, q9⟩ := hin.2.2
      clear q3 q6 q9 hin hcell
      unfold maxLen at hcl
      have HE := Lib.hid (endL_take l base k hlt)
      have HBS := Lib.hid (basesL_take l base k hlt)
      have e0 : 0 ≤ endL base (l.take k) := Int.le_trans h0 (endL_ge _ _)
      have e1 : endL base (l.take (k + 1)) ≤ 4611686018427387904 := Int.le_trans (HUP.out (k + 1)) h1
      rw [HE.out] at e1
      obtain ⟨u0, u1, u2⟩ := up4_le (endL base (l.take k))
      have HRU := Lib.hid (fun W => rup_any (endL base (l.take k)) W e0 (by omega))
      generalize hn : endL base (l.take k) = n at *
      generalize hm' : up4 n = m at *
      have HK := Lib.hid (fun (w2 : World) (h2 : w2 = wr.alloc (.cells #[.slice q1 l[k].code.length q2, .slice q4 l[k].syms.length q5, .slice q7 l[k].rels.length q8] 26)) =>
        (show Below w.heap.size w w2 ∧ w2.ownsRow w.heap.size 3 1 x k (icells (basesL base (l.take k))) ∧ (∀ j, x.ownBlock = some j → w.heap.size ≤ j ∧ j < wr.heap.size) ∧ wr.heap.size < w2.heap.size ∧ w2.cell? ⟨wr.heap.size, 0, none⟩ = some (.slice q1 l[k].code.length q2) by
          subst h2
          exact ⟨Below.alloc HB.out HB.out.size _, HO.out.alloc _, HO.out.lt, by simp, by rw [World.cell?_alloc_new]; rfl⟩))
      clear HO HB
      have h63 : k + 1 ≤ maxLen := by unfold maxLen; omega
      have hby : (k + 1) * 8 ≤ 140737488355328 := by omega
      go_wp2_with (first
        | (go_at_call 35; refine (HRU.out _).mono ?_; rintro e w2 ⟨rfl, hw2⟩; obtain ⟨hb2, ho2, hlt2, hz2', x0⟩ := HK.out w2 hw2; have HL2 := Lib.hid hlt2; have HO2 := Lib.hid ho2; have HB2 := Lib.hid hb2; clear hw2 ho2 hb2 hlt2 HK)
        | (at_builtin; refine wpList_append_own _ rfl _ _ 44 rfl w.heap.size 3 i0 _ 1 8 Try.underlying44 hi hz0 hz1 hz2 rfl (by decide) _ _ _ rfl (HO2.out.alloc _) ⟨w2.heap.size, 0, none⟩ 1 1 [.int .i64 m] rfl rfl (new1 _ _ _) (one1 _) h63 hby (by simp; have := HB2.out.size; omega) ?_)
        | go_in)
      · intro v' w3 hown3 hgrow _
        have HO3 := Lib.hid hown3
        have HB3 := Lib.hid ((HB2.out.alloc HB2.out.size (.cells #[.int .i64 m] 3)).grown hgrow (by simp; have := HB2.out.size; omega) (fun j hj => (HL2.out j hj).1))
        have x3 : w3.cell? ⟨wr.heap.size, 0, none⟩ = some (.slice q1 l[k].code.length q2) := by
          rw [← x0]
          exact (World.cell?_of_block (hgrow.block wr.heap.size (by simp; omega) (by intro e; have := (HL2.out _ e.symm).2; omega))).trans ((oalloc w2 _).cell (by exact hz2'))
        clear hown3 hgrow x0
        go_wp2
        exact ⟨⟨k + 1, by omega, by go_num, by rw [HE.out], HB3, by rw [HBS.out, icells_app]; exact HO3⟩, by simp [intOf]; omega⟩
    · have hk1 : ¬ (k : Int) < l.length := by omega
      obtain rfl : k = l.length := by omega
      rw [List.take_length] at HO ⊢
      go_wp2
      go_ret2
      exact ⟨x, rfl, HB.out, HO.out⟩

end Go.Proofs.Ytalghejeekajgad
