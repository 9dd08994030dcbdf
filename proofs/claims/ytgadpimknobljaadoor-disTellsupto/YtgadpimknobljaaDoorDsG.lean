/- The contracts of Text and of what it does with each half word. -/
import Derived.Test.YtgadpimknobljaaDoorDsF
namespace Go.Proofs.YtgadpimknobljaaDoor
open Go.RowKit Isa

/-- The name ahead of half word k. -/
def nameL (bs : Nat → Int) (len k : Nat) : List UInt8 := if ledB bs len ((len + 1) / 2) k = true then placeL (2 * k) ++ [58, 10] else []
/-- The text of the first k half words. -/
def textTo (bs : Nat → Int) (len : Nat) : Nat → List UInt8
  | 0 => []
  | k + 1 => textTo bs len k ++ nameL bs len k ++ (rowL bs len k ++ [10])

theorem nameL_few (bs : Nat → Int) (len k : Nat) : (nameL bs len k).length ≤ 20 := by
  unfold nameL
  split
  · have := placeL_few (2 * k)
    simp; omega
  · simp
theorem lineL_few (op n m imm at' : Int) (hn0 : 0 ≤ n) (hn1 : n ≤ 15) (hm0 : 0 ≤ m) (hm1 : m ≤ 15) (h2 : -10000 ≤ imm) (h3 : imm ≤ 10000) : (lineL op n m imm at').length ≤ 80 := by
  have h4 := name_few op
  have h5 := operL_few (infoShape op) n m imm (toI op imm at') hn0 hn1 hm0 hm1 h2 h3
  unfold lineL
  split
  · omega
  · simp only [List.length_append, List.length_cons, List.length_nil]; omega
theorem rowL_few {bs : Nat → Int} (hb : IsByte bs) (len k : Nat) : (rowL bs len k).length ≤ 80 := by
  obtain ⟨_, b1, b2, b3, b4, b5, b6⟩ := dV_all (halfW bs k)
  have h1 := hw_bd hb k
  have h2 := hb (2 * k)
  have h3 := itoa_few (halfW bs k) (by omega) (by omega)
  have h4 := itoa_few (bs (2 * k)) (by omega) (by omega)
  unfold rowL
  split
  · exact lineL_few _ _ _ _ _ b1 b2 b3 b4 b5 b6
  · split
    · simp only [List.length_append, List.length_cons, List.length_nil]; omega
    · simp only [List.length_append, List.length_cons, List.length_nil]; omega
theorem textTo_few {bs : Nat → Int} (hb : IsByte bs) (len : Nat) : ∀ k, (textTo bs len k).length ≤ 101 * k
  | 0 => by simp [textTo]
  | k + 1 => by
    have h1 := textTo_few hb len k
    have h2 := nameL_few bs len k
    have h3 := rowL_few hb len k
    simp only [textTo, List.length_append, List.length_cons, List.length_nil]
    omega

/-- The world behind a part that writes. -/
structure PrN (B b : Nat) (w w' : World) : Prop where
  bel : Below B w w'
  kept : Lib.OthersKept 5 (some b) w w'
theorem PrN.of_below {B b : Nat} {w w' : World} (hb : Below w.heap.size w w') (hB : B ≤ w.heap.size) : PrN B b w w' :=
  ⟨hb.mono hB, fun k o hk _ _ => by rw [hb.block k (Array.getElem?_eq_some_iff.1 hk).1]; exact hk⟩
theorem PrN.cells {B b : Nat} {w w' : World} (h : PrN B b w w') {k : Nat} {cs : Array Value} {t : TypeId} {fz : Nat × Nat} (hk : w.heap[k]? = some (.cells cs t fz)) (hne : k ≠ b) (ht : t ≠ 5) : w'.heap[k]? = some (.cells cs t fz) :=
  h.kept k _ hk (by simpa using hne) (by intro c f e; injection e with _ e _; exact ht e)
theorem gbelow {w w' : World} {B : Nat} (r : Option Nat) (h : Below B w w') (hB : w.heap.size ≤ B) : w.grownBy w' r :=
  ⟨h.os, h.tape, h.output, h.size, fun i hi _ => h.block i (by omega)⟩
theorem bldF_below {w w' : World} {B b : Nat} {bs : List Value} (h : Lib.IsBuilderF 36 5 B b bs w) (hb : Below w.heap.size w w') : Lib.IsBuilderF 36 5 B b bs w' := by
  have hg : w.grownBy w' none := gbelow none hb (Nat.le_refl _)
  have one : ∀ p, Lib.BuilderAtF 36 5 B b p bs w → Lib.BuilderAtF 36 5 B b p bs w' := by
    rintro p ⟨hB, v, hk, hown, hne⟩
    refine ⟨hB, v, ?_, hown.kept hg ?_, hne⟩
    · rw [hb.block b (Array.getElem?_eq_some_iff.1 hk).1]; exact hk
    · cases v.ownBlock with
      | none => exact Or.inl rfl
      | some _ => exact Or.inr (by simp)
  exact h.elim (fun x => Or.inl (one _ x)) (fun x => Or.inr (one _ x))

/-- What Text keeps: the box of the row of goals at q, the row at g, the box of the bytes at p, the builder at c. -/
structure TI (bs : Nat → Int) (ad : Option Addr) (len cap : Nat) (w : World) (g q p c : Nat) (l : List UInt8) (W : World) : Prop where
  bel : Below w.heap.size w W
  box : W.heap[q]? = some (.cells #[.slice (some ⟨g, 0, none⟩) ((len + 1) / 2) ((len + 1) / 2)] 32 (0, 0))
  row : BRow W g ((len + 1) / 2) (ledB bs len ((len + 1) / 2))
  byt : W.heap[p]? = some (.cells #[.slice ad len cap] 22 (0, 0))
  bld : Lib.IsBuilderF 36 5 w.heap.size c (Lib.byteCells l) W
  ne1 : q ≠ c
  ne2 : g ≠ c
  ne3 : p ≠ c
theorem TI.put {bs : Nat → Int} {ad : Option Addr} {len cap : Nat} {w : World} {g q p c : Nat} {l l' : List UInt8} {W W' : World} (h : TI bs ad len cap w g q p c l W) (hn : PrN w.heap.size c W W') (hb : Lib.IsBuilderF 36 5 w.heap.size c (Lib.byteCells l') W') : TI bs ad len cap w g q p c l' W' :=
  ⟨h.bel.trans hn.bel, hn.cells h.box h.ne1 (by decide), by obtain ⟨cs, h1, h2⟩ := h.row; exact ⟨cs, hn.cells h1 h.ne2 (by decide), h2⟩, hn.cells h.byt h.ne3 (by decide), hb, h.ne1, h.ne2, h.ne3⟩
theorem TI.lt {bs : Nat → Int} {ad : Option Addr} {len cap : Nat} {w : World} {g q p c : Nat} {l : List UInt8} {W : World} (h : TI bs ad len cap w g q p c l W) : c < W.heap.size := by
  rcases h.bld with h | h <;> exact h.lt
theorem TI.next {bs : Nat → Int} {ad : Option Addr} {len cap : Nat} {w : World} {g q p c : Nat} {l : List UInt8} {W W' : World} (h : TI bs ad len cap w g q p c l W) (hb : Below W.heap.size W W') : TI bs ad len cap w g q p c l W' :=
  h.put (PrN.of_below hb h.bel.size) (bldF_below h.bld hb)
theorem TI.write {bs : Nat → Int} {ad : Option Addr} {len cap : Nat} {w : World} {g q p c : Nat} {l : List UInt8} {W : World} (h : TI bs ad len cap w g q p c l W) (s : List UInt8) (hl : l.length + s.length ≤ 140737488355328) :
    Calls Tryd.prog 14 #[.pointer (some ⟨c, 0, none⟩), .string ⟨s.toArray⟩] W fun e W' => e = .returned (.tuple #[.int .i64 s.length, .nilIface]) ∧ TI bs ad len cap w g q p c (l ++ s) W' ∧ PrN w.heap.size c W W' := by
  refine (Any.Builder_WriteString_k Tryd.lays166 Tryd.Builder_Extra_166 w.heap.size c (Lib.byteCells l) ⟨s.toArray⟩ W h.bld (by rw [Lib.byteCells_length]; simpa [ByteArray.size] using hl) h.bel.size).mono ?_
  rintro e W' ⟨rfl, hA, hbel, hk⟩
  refine ⟨rfl, h.put ⟨hbel, hk⟩ (Or.inr ?_), ⟨hbel, hk⟩⟩
  rw [Lib.byteCells_append]
  exact hA

set_option maxHeartbeats 4000000 in
theorem text1_any {bs : Nat → Int} {ad : Option Addr} {len cap : Nat} {w W : World} {g q p c k : Nat} (hD : DL w) (hR : BR w ad len bs) (a : Int) (ha : a = 2 * k) (hk : 2 * k < len) (hI : TI bs ad len cap w g q p c (textTo bs len k) W) :
    Calls Tryd.prog 13 #[.int .i64 a, .agg #[.int .i64 (tV bs len k 0), .int .i64 (tV bs len k 1), .int .i64 (tV bs len k 2), .int .i64 (tV bs len k 3)], .bool (toldB bs len k), .pointer (some ⟨q, 0, none⟩), .pointer (some ⟨c, 0, none⟩), .pointer (some ⟨p, 0, none⟩)] W fun e W' => e = .returned (.tuple #[]) ∧ TI bs ad len cap w g q p c (textTo bs len (k + 1)) W' := by
  have hf := hR.few
  have hcW : ¬ W.heap.size = c := Nat.ne_of_gt hI.lt
  have HI0 := Lib.hid (hI.next (oalloc W (.cells #[.int .i64 (tV bs len k 0), .int .i64 (tV bs len k 1), .int .i64 (tV bs len k 2), .int .i64 (tV bs len k 3)] 24)))
  obtain ⟨_, b1, b2, b3, b4, b5, b6⟩ := dV_all (halfW bs k)
  have hq : a.tdiv 2 = k := by rw [ha]; exact Int.mul_tdiv_cancel_left _ (by omega)
  have hkl : k < (len + 1) / 2 := by omega
  have hki : (k : Int) < (((len + 1) / 2 : Nat) : Int) := by omega
  have HPL : Hid (∀ W', Below w.heap.size w W' → Calls Tryd.prog 15 #[.int .i64 a] W' fun e w' => e = .returned (.string ⟨(placeL (2 * k)).toArray⟩) ∧ Below W'.heap.size W' w') := fun W' hb => by
    have := place_any a W' (by omega) (by omega) (hD.next hb)
    rw [ha] at this ⊢
    exact this
  have HDA : Hid (∀ W', Below w.heap.size w W' → toldB bs len k = false → Calls Tryd.prog 16 #[.slice ad len cap, .int .i64 a] W' fun e w' => e = .returned (.string ⟨(rowL bs len k).toArray⟩) ∧ Below W'.heap.size W' w') := fun W' hb htd => by
    have := data_any (cap := cap) (hD.next hb) (hR.next hb) k a ha hk
    unfold rowL
    rw [if_neg (by rw [htd]; simp)]
    exact this
  have HLI : Hid (∀ W', Below w.heap.size w W' → toldB bs len k = true → Calls Tryd.prog 9 #[.agg #[.int .i64 (tV bs len k 0), .int .i64 (tV bs len k 1), .int .i64 (tV bs len k 2), .int .i64 (tV bs len k 3)], .int .i64 a] W' fun e w' => e = .returned (.string ⟨(rowL bs len k).toArray⟩) ∧ Below W'.heap.size W' w') := fun W' hb htd => by
    have := line_any (dV (halfW bs k) 0) (dV (halfW bs k) 1) (dV (halfW bs k) 2) (dV (halfW bs k) 3) a W' (hD.next hb) (by omega) (by omega) b1 b2 b3 b4 b5 b6
    unfold rowL tV
    simp only [if_pos htd]
    rw [ha] at this ⊢
    exact this
  have hrf := rowL_few hR.byt len k
  have htf := textTo_few hR.byt len k
  have hpf := placeL_few (2 * k)
  have HTX : Hid (textTo bs len (k + 1) = textTo bs len k ++ (if ledB bs len ((len + 1) / 2) k = true then placeL (2 * k) ++ [58, 10] else []) ++ (rowL bs len k ++ [10])) := rfl
  have hct : (⟨(placeL (2 * k)).toArray⟩ : ByteArray) ++ ⟨#[58, 10]⟩ = ⟨(placeL (2 * k) ++ [58, 10]).toArray⟩ := bcat _ [58, 10]
  have hcr : (⟨(rowL bs len k).toArray⟩ : ByteArray) ++ ⟨#[10]⟩ = ⟨(rowL bs len k ++ [10]).toArray⟩ := bcat _ [10]
  have hs1 : ¬ 9223372036854775807 < (placeL (2 * k)).length + 2 := by omega
  have hs2 : ¬ 9223372036854775807 < (rowL bs len k).length + 1 := by omega
  have HL1 : Hid ((textTo bs len k).length + (placeL (2 * k) ++ [58, 10]).length ≤ 140737488355328) := by unfold Hid; simp; omega
  have HL2 : Hid (∀ x : List UInt8, x.length ≤ 20 → (textTo bs len k ++ x).length + (rowL bs len k ++ [10]).length ≤ 140737488355328) := fun x hx => by simp; omega
  have HPF : Hid ((placeL (2 * k) ++ [58, 10]).length ≤ 20) := by unfold Hid; simp; omega
  rw [HTX.out]
  clear HTX hD hR ha b1 b2 b3 b4 b5 b6 hI hrf htf hpf
  generalize textTo bs len k = tx at *
  generalize tV bs len k 0 = d0 at *
  generalize tV bs len k 1 = d1 at *
  generalize tV bs len k 2 = d2 at *
  generalize tV bs len k 3 = d3 at *
  generalize rowL bs len k = rl at *
  generalize placeL (2 * k) = pl at *
  generalize pl ++ [58, 10] = pl2 at *
  generalize rl ++ [10] = rl2 at *
  have c0 := cell_of_block (i := 0) HI0.out.box rfl
  have c1 := (HI0.out.row.cell hkl).1
  have HBX : Hid (∀ l W', TI bs ad len cap w g q p c l W' → Below w.heap.size w W' ∧ W'.cell? ⟨p, 0, none⟩ = some (.slice ad len cap)) := fun l W' h => ⟨h.bel, cell_of_block (i := 0) h.byt rfl⟩
  have HNX : Hid (∀ l W' W'', TI bs ad len cap w g q p c l W' → Below W'.heap.size W' W'' → TI bs ad len cap w g q p c l W'') := fun l W' W'' h hb => h.next hb
  have HWR : Hid (∀ l s W', l.length + s.length ≤ 140737488355328 → TI bs ad len cap w g q p c l W' → Calls Tryd.prog 14 #[.pointer (some ⟨c, 0, none⟩), .string ⟨s.toArray⟩] W' fun e W'' => e = .returned (.tuple #[.int .i64 s.length, .nilIface]) ∧ TI bs ad len cap w g q p c (l ++ s) W'' ∧ PrN w.heap.size c W' W'') := fun l s W' hl h => h.write s hl
  generalize (len + 1) / 2 = h at *
  generalize TI bs ad len cap w g q p c = J at *
  have c2 := (HBX.out _ _ HI0.out).2
  cases hled : ledB bs len h k
  · rw [hled] at c1
    rw [if_neg (by simp), List.append_nil]
    have HL3 : Hid (tx.length + rl2.length ≤ 140737488355328) := by have := HL2.out [] (by simp); unfold Hid; simpa using this
    cases htd : toldB bs len k
    · have HC := Lib.hid (HDA.out _ (HBX.out _ _ HI0.out).1 htd)
      clear HDA HLI HPL
      go_enter Tryd.func13, Tryd.ntmps13
      go_wp2_with (first | (go_at_call 16; refine HC.out.mono ?_; rintro e W1 ⟨rfl, hb1⟩; have HI1 := Lib.hid (HNX.out _ _ _ HI0.out hb1); clear hb1) | (go_at_call 14; refine (HWR.out _ _ _ HL3.out HI1.out).mono ?_; rintro e W2 ⟨rfl, hi2, _⟩; have HI2 := Lib.hid hi2; clear hi2) | fail)
      exact bodyPost_end (v := .tuple #[]) (by simp [results, Tryd.results13, go_sem]) rfl ⟨rfl, HI2.out⟩
    · have HC := Lib.hid (HLI.out _ (HBX.out _ _ HI0.out).1 htd)
      clear HDA HLI HPL
      go_enter Tryd.func13, Tryd.ntmps13
      go_wp2_with (first | (go_at_call 9; refine HC.out.mono ?_; rintro e W1 ⟨rfl, hb1⟩; have HI1 := Lib.hid (HNX.out _ _ _ HI0.out hb1); clear hb1) | (go_at_call 14; refine (HWR.out _ _ _ HL3.out HI1.out).mono ?_; rintro e W2 ⟨rfl, hi2, _⟩; have HI2 := Lib.hid hi2; clear hi2) | fail)
      exact bodyPost_end (v := .tuple #[]) (by simp [results, Tryd.results13, go_sem]) rfl ⟨rfl, HI2.out⟩
  · rw [hled] at c1
    rw [if_pos rfl]
    have HL3 := Lib.hid (HL2.out pl2 HPF.out)
    have HP := Lib.hid (HPL.out _ (HBX.out _ _ HI0.out).1)
    cases htd : toldB bs len k
    · clear HLI HPL
      go_enter Tryd.func13, Tryd.ntmps13
      go_wp2_with (first | (go_at_call 15; refine HP.out.mono ?_; rintro e W1 ⟨rfl, hb1⟩; have HI1 := Lib.hid (HNX.out _ _ _ HI0.out hb1); clear hb1) | (go_at_call 14; refine (HWR.out _ _ _ HL1.out HI1.out).mono ?_; rintro e W2 ⟨rfl, hi2, _⟩; have HI2 := Lib.hid hi2; have c3 := (HBX.out _ _ hi2).2; clear hi2 HI1) | (go_at_call 16; refine (HDA.out _ (HBX.out _ _ HI2.out).1 htd).mono ?_; rintro e W3 ⟨rfl, hb3⟩; have HI3 := Lib.hid (HNX.out _ _ _ HI2.out hb3); clear hb3) | (go_at_call 14; refine (HWR.out _ _ _ HL3.out HI3.out).mono ?_; rintro e W4 ⟨rfl, hi4, _⟩; have HI4 := Lib.hid hi4; clear hi4) | fail)
      exact bodyPost_end (v := .tuple #[]) (by simp [results, Tryd.results13, go_sem]) rfl ⟨rfl, HI4.out⟩
    · clear HDA HPL
      go_enter Tryd.func13, Tryd.ntmps13
      go_wp2_with (first | (go_at_call 15; refine HP.out.mono ?_; rintro e W1 ⟨rfl, hb1⟩; have HI1 := Lib.hid (HNX.out _ _ _ HI0.out hb1); have HBK := Lib.hid ((hb1.block W.heap.size (by simp)).trans (blk_new _ _ _)); clear hb1) | (go_at_call 14; refine (HWR.out _ _ _ HL1.out HI1.out).mono ?_; rintro e W2 ⟨rfl, hi2, hn2⟩; have HI2 := Lib.hid hi2; have n0 := cell_of_block (i := 0) (hn2.cells HBK.out hcW (by decide)) rfl; have n1 := cell_of_block (i := 1) (hn2.cells HBK.out hcW (by decide)) rfl; have n2 := cell_of_block (i := 2) (hn2.cells HBK.out hcW (by decide)) rfl; have n3 := cell_of_block (i := 3) (hn2.cells HBK.out hcW (by decide)) rfl; clear hi2 HI1 hn2 HBK) | (go_at_call 9; refine (HLI.out _ (HBX.out _ _ HI2.out).1 htd).mono ?_; rintro e W3 ⟨rfl, hb3⟩; have HI3 := Lib.hid (HNX.out _ _ _ HI2.out hb3); clear hb3) | (go_at_call 14; refine (HWR.out _ _ _ HL3.out HI3.out).mono ?_; rintro e W4 ⟨rfl, hi4, _⟩; have HI4 := Lib.hid hi4; clear hi4) | fail)
      exact bodyPost_end (v := .tuple #[]) (by simp [results, Tryd.results13, go_sem]) rfl ⟨rfl, HI4.out⟩

end Go.Proofs.YtgadpimknobljaaDoor
