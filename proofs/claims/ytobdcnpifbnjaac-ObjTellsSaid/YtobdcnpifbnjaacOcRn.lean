/- What the program's own reader tells, as functions of lists, and the contracts of its number, name, sym and reloc. -/
import Derived.Test.YtobdcnpifbnjaacOcRd
namespace Go.Proofs.Ytobdcnpifbnjaac
open Go.RowKit

def dT (n : Nat) (l : List UInt8) (s : Bool) : List UInt8 × List UInt8 × Bool := if n ≤ l.length then (l.take n, l.drop n, s) else ([], l, true)
def dN (k : Nat) (l : List UInt8) (s : Bool) : Nat × List UInt8 × Bool := if k ≤ l.length then (beNum (l.take k), l.drop k, s) else (0, l, true)
def dName (l : List UInt8) (s : Bool) : List UInt8 × List UInt8 × Bool := dT (dN 1 l s).1 (dN 1 l s).2.1 (dN 1 l s).2.2
def dSym (l : List UInt8) (s : Bool) : Sy × List UInt8 × Bool :=
  (⟨(dName l s).1, (dN 4 (dName l s).2.1 (dName l s).2.2).1⟩, (dN 4 (dName l s).2.1 (dName l s).2.2).2)
def dRel (l : List UInt8) (s : Bool) : Re × List UInt8 × Bool :=
  let a := dN 4 l s
  let b := dN 1 a.2.1 a.2.2
  let c := dName b.2.1 b.2.2
  let d := dN 4 c.2.1 c.2.2
  (⟨a.1, b.1, c.1, wrap32 d.1⟩, d.2)
def dMany {α : Type} (f : List UInt8 → Bool → α × List UInt8 × Bool) : Nat → List UInt8 → Bool → List α × List UInt8 × Bool
  | 0, l, s => ([], l, s)
  | n + 1, l, s => if s = true then ([], l, s) else ((f l s).1 :: (dMany f n (f l s).2.1 (f l s).2.2).1, (dMany f n (f l s).2.1 (f l s).2.2).2)

/-- An answer and what is left, if it was not short. -/
def got {α : Type} (x : α × List UInt8 × Bool) : Option (α × List UInt8) := if x.2.2 = true then none else some (x.1, x.2.1)

theorem dT_rd (n : Nat) (l : List UInt8) : rdT n l = got (dT n l false) := by
  unfold rdT dT got
  by_cases h : n ≤ l.length <;> simp [h]
theorem dN_rd (k : Nat) (l : List UInt8) : rdN k l = got (dN k l false) := by
  unfold rdN dN got
  by_cases h : k ≤ l.length <;> simp [h]
theorem dT_true (n : Nat) (l : List UInt8) : (dT n l true).2.2 = true := by
  unfold dT
  by_cases h : n ≤ l.length <;> simp [h]
theorem dN_true (n : Nat) (l : List UInt8) : (dN n l true).2.2 = true := by
  unfold dN
  by_cases h : n ≤ l.length <;> simp [h]
theorem dName_true (l : List UInt8) : (dName l true).2.2 = true := by unfold dName; rw [dN_true]; exact dT_true _ _
theorem dSym_true (l : List UInt8) : (dSym l true).2.2 = true := by unfold dSym; simp only [dName_true]; exact dN_true _ _
theorem dRel_true (l : List UInt8) : (dRel l true).2.2 = true := by unfold dRel; simp only [dN_true, dName_true]
theorem dMany_true {α : Type} (f : List UInt8 → Bool → α × List UInt8 × Bool) (n : Nat) (l : List UInt8) : dMany f n l true = ([], l, true) := by cases n <;> simp [dMany]
theorem dMany_step {α : Type} (f : List UInt8 → Bool → α × List UInt8 × Bool) (n : Nat) (l : List UInt8) : dMany f (n + 1) l false = ((f l false).1 :: (dMany f n (f l false).2.1 (f l false).2.2).1, (dMany f n (f l false).2.1 (f l false).2.2).2) := by simp [dMany]

theorem got_bind {α β : Type} (x : α × List UInt8 × Bool) (f : α × List UInt8 → Option β) : (got x).bind f = if x.2.2 = true then none else f (x.1, x.2.1) := by
  unfold got
  split <;> rfl

theorem dSym_rd (l : List UInt8) : rdSym l = got (dSym l false) := by
  unfold rdSym
  rw [dN_rd, got_bind]
  cases h1 : (dN 1 l false).2.2
  · simp only [Bool.false_eq_true, if_false, dT_rd, got_bind]
    have e : dName l false = dT (dN 1 l false).1 (dN 1 l false).2.1 false := by unfold dName; rw [h1]
    rw [← e]
    cases h2 : (dName l false).2.2
    · simp only [Bool.false_eq_true, if_false, dN_rd, got_bind]
      unfold got dSym
      simp only [h2]
    · simp only [if_true]
      unfold got dSym
      simp only [h2, dN_true, if_true]
  · simp only [if_true]
    have h2 : (dName l false).2.2 = true := by unfold dName; rw [h1]; exact dT_true _ _
    unfold got dSym
    simp only [h2, dN_true, if_true]

theorem dRel_rd (l : List UInt8) : rdRel l = got (dRel l false) := by
  unfold rdRel
  rw [dN_rd, got_bind]
  cases h1 : (dN 4 l false).2.2
  · simp only [Bool.false_eq_true, if_false, dN_rd, got_bind]
    cases h2 : (dN 1 (dN 4 l false).2.1 false).2.2
    · simp only [Bool.false_eq_true, if_false]
      cases h3 : (dN 1 (dN 1 (dN 4 l false).2.1 false).2.1 false).2.2
      · simp only [Bool.false_eq_true, if_false, dT_rd, got_bind]
        have e : dName (dN 1 (dN 4 l false).2.1 false).2.1 false = dT (dN 1 (dN 1 (dN 4 l false).2.1 false).2.1 false).1 (dN 1 (dN 1 (dN 4 l false).2.1 false).2.1 false).2.1 false := by unfold dName; rw [h3]
        rw [← e]
        cases h4 : (dName (dN 1 (dN 4 l false).2.1 false).2.1 false).2.2
        · simp only [Bool.false_eq_true, if_false]
          unfold got dRel
          simp only [h1, h2, h4]
        · simp only [if_true]
          unfold got dRel
          simp only [h1, h2, h4, dN_true, if_true]
      · simp only [if_true]
        have h4 : (dName (dN 1 (dN 4 l false).2.1 false).2.1 false).2.2 = true := by unfold dName; rw [h3]; exact dT_true _ _
        unfold got dRel
        simp only [h1, h2, h4, dN_true, if_true]
    · simp only [if_true]
      unfold got dRel
      simp only [h1, h2, dName_true, dN_true, if_true]
  · simp only [if_true]
    unfold got dRel
    simp only [h1, dName_true, dN_true, if_true]

theorem dMany_rd {α : Type} {f : List UInt8 → Bool → α × List UInt8 × Bool} {g : List UInt8 → Option (α × List UInt8)} (hf : ∀ l, g l = got (f l false)) : ∀ (n : Nat) (l : List UInt8), rdMany g n l = got (dMany f n l false)
  | 0, l => by simp [rdMany, dMany, got]
  | n + 1, l => by
    rw [rdMany, hf, got_bind, dMany_step]
    cases h : (f l false).2.2
    · simp only [Bool.false_eq_true, if_false]
      rw [dMany_rd hf n, got_bind]
      unfold got
      rfl
    · simp [got, dMany_true]

theorem beNum_lt : ∀ (l : List UInt8), beNum l < 256 ^ l.length := by
  intro l
  suffices h : ∀ (l : List UInt8) (n : Nat), l.foldl (fun n c => n * 256 + c.toNat) n < (n + 1) * 256 ^ l.length by simpa [beNum] using h l 0
  intro l
  induction l with
  | nil => intro n; simp
  | cons c r ih =>
    intro n
    have h1 := ih (n * 256 + c.toNat)
    have hc := c.toNat_lt
    rw [List.foldl_cons, List.length_cons, Nat.pow_succ]
    refine Nat.lt_of_lt_of_le h1 ?_
    have : n * 256 + c.toNat + 1 ≤ (n + 1) * 256 := by omega
    calc (n * 256 + c.toNat + 1) * 256 ^ r.length ≤ ((n + 1) * 256) * 256 ^ r.length := Nat.mul_le_mul_right _ this
      _ = (n + 1) * (256 ^ r.length * 256) := by rw [Nat.mul_assoc, Nat.mul_comm 256]
theorem dN_lt1 (l : List UInt8) (s : Bool) : (dN 1 l s).1 < 256 := by
  unfold dN
  split
  · have := beNum_lt (l.take 1)
    rw [show (l.take 1).length = 1 by simp; omega] at this
    simpa using this
  · show 0 < 256
    decide
theorem dN_lt4 (l : List UInt8) (s : Bool) : (dN 4 l s).1 < 4294967296 := by
  unfold dN
  split
  · have := beNum_lt (l.take 4)
    rw [show (l.take 4).length = 4 by simp; omega] at this
    simpa using this
  · show 0 < 4294967296
    decide
theorem dName_len (l : List UInt8) (s : Bool) : (dName l s).1.length ≤ 255 := by
  unfold dName
  have := dN_lt1 l s
  generalize (dN 1 l s).1 = n at *
  unfold dT
  split
  · simp; omega
  · simp
theorem dMany_names {α : Type} {f : List UInt8 → Bool → α × List UInt8 × Bool} {P : α → Prop} (hf : ∀ l s, P (f l s).1) : ∀ (n : Nat) (l : List UInt8) (s : Bool), ∀ x, x ∈ (dMany f n l s).1 → P x
  | 0, l, s, x, hx => by simp [dMany] at hx
  | n + 1, l, s, x, hx => by
    cases s
    · rw [dMany_step] at hx
      rcases List.mem_cons.1 hx with rfl | hx
      · exact hf _ _
      · exact dMany_names hf n _ _ x hx
    · rw [dMany_true] at hx
      cases hx

theorem take_any (Q : Nat) (l : List UInt8) (s : Bool) (n : Nat) (w : World) (h : DR w Q l s) :
    Calls Try.prog 22 #[.pointer (some ⟨Q, 0, none⟩), .int .i64 (n : Int)] w fun e w' => ∃ v, e = .returned v ∧ RB w' Q v (dT n l s).1 ∧ DR w' Q (dT n l s).2.1 (dT n l s).2.2 ∧ w.grownBy w' (some Q) := by
  by_cases hn : n ≤ l.length
  · have e : dT n l s = (l.take n, l.drop n, s) := by unfold dT; rw [if_pos hn]
    rw [e]
    exact take_some Q l s n w h hn
  · have e : dT n l s = ([], l, true) := by unfold dT; rw [if_neg hn]
    rw [e]
    refine (take_short Q l s n w h (by omega)).mono ?_
    rintro e w' ⟨rfl, h1, h2⟩
    exact ⟨_, rfl, ⟨none, 0, rfl, .inl ⟨rfl, rfl, rfl⟩⟩, h1, h2⟩

theorem getTo_nil (bs : Nat → Int) : ∀ k, Oi.getTo bs 0 0 k = 0
  | 0 => rfl
  | k + 1 => by
    rw [Oi.getTo, getTo_nil bs k]
    unfold Oi.byteAt
    rw [if_neg (by omega)]
    omega
theorem oGetTo (bs : Nat → Int) (len : Nat) (a : Int) : ∀ k, Oi.getTo bs len a k = Og.getTo bs len a k
  | 0 => rfl
  | k + 1 => by rw [Oi.getTo, Og.getTo, oGetTo bs len a k]; rfl

/-- What isa.Get tells of the bytes that were taken. -/
theorem get_taken (v : Value) (l : List UInt8) (s : Bool) (k : Nat) (h6 : k ≤ 6) (w : World) (hv : OBytes w v (dT k l s).1) :
    Calls Try.prog 34 #[v, .int .i64 0, .int .i64 (k : Int)] w fun e w' => e = .returned (.int .i64 ((dN k l s).1 : Int)) ∧ w = w' := by
  obtain ⟨ad, cap, rfl, hm, hc⟩ := hv
  have hg := Oi.get_any ad (dT k l s).1.length cap (byF (dT k l s).1) 0 k w (byF_byte _) hm (fun h0 => by
    obtain ⟨b, o, rfl, _, hcell⟩ := hc h0
    refine ⟨b, o, rfl, fun i hi => ?_⟩
    rw [hcell i hi]
    unfold byF
    rw [List.getD_eq_getElem?_getD, List.getElem?_eq_getElem hi]
    rfl) (by omega) (by omega) (by omega) (by omega)
  refine hg.mono ?_
  rintro e w' ⟨rfl, rfl⟩
  refine ⟨ret_int ?_, rfl⟩
  rw [Int.toNat_natCast, oGetTo]
  by_cases hk : k ≤ l.length
  · have e1 : (dT k l s).1 = l.take k := by unfold dT; rw [if_pos hk]
    have e2 : (dN k l s).1 = beNum (l.take k) := by unfold dN; rw [if_pos hk]
    rw [e1, e2]
    have h := getTo_list (l.take k) 0 k (by simp; omega)
    simp only [List.drop_zero, List.take_take, Nat.min_self] at h
    exact h
  · have e1 : (dT k l s).1 = [] := by unfold dT; rw [if_neg hk]
    have e2 : (dN k l s).1 = 0 := by unfold dN; rw [if_neg hk]
    rw [e1, e2, ← oGetTo]
    exact getTo_nil _ _

theorem dT_dN (k : Nat) (l : List UInt8) (s : Bool) : (dT k l s).2 = (dN k l s).2 := by
  unfold dT dN
  split <;> rfl
theorem dT_few {n : Nat} {l : List UInt8} {s : Bool} (h : l.length ≤ 140737488355328) : (dT n l s).1.length ≤ maxLen := by
  unfold dT maxLen
  split <;> simp; omega

set_option maxHeartbeats 2000000 in
theorem dnum_any (Q : Nat) (l : List UInt8) (s : Bool) (k : Nat) (h6 : k ≤ 6) (w : World) (h : DR w Q l s) :
    Calls Try.prog 23 #[.pointer (some ⟨Q, 0, none⟩), .int .i64 (k : Int)] w fun e w' => e = .returned (.int .i64 ((dN k l s).1 : Int)) ∧ DR w' Q (dN k l s).2.1 (dN k l s).2.2 ∧ w.grownBy w' (some Q) := by
  have ht := take_any Q l s k w h
  have HG : Hid (∀ v w1, RB w1 Q v (dT k l s).1 → DR w1 Q (dT k l s).2.1 (dT k l s).2.2 → Calls Try.prog 34 #[v, .int .i64 0, .int .i64 (k : Int)] w1 fun e w' => e = .returned (.int .i64 ((dN k l s).1 : Int)) ∧ w1 = w') :=
    fun v w1 hv hd => get_taken v l s k h6 w1 (hv.bytes (Nat.le_of_lt hd.lt) (dT_few h.few))
  rw [← dT_dN]
  clear h
  generalize (dN k l s).1 = x at *
  generalize dT k l s = y at *
  go_enter Try.func23, Try.ntmps23
  go_wp2_with (first | (go_at_call 22; refine ht.mono ?_; rintro e w1 ⟨v, rfl, hv, hd, hg⟩; have HG1 := Lib.hid (HG.out v w1 hv hd); have HD := Lib.hid (And.intro hd hg); clear hv hd hg) | (go_at_call 34; refine HG1.out.mono ?_; rintro e w2 ⟨rfl, rfl⟩))
  go_ret
  exact ⟨rfl, HD.out.1, HD.out.2⟩
theorem dnum4 (Q : Nat) (l : List UInt8) (s : Bool) (w : World) (h : DR w Q l s) :
    Calls Try.prog 23 #[.pointer (some ⟨Q, 0, none⟩), .int .i64 4] w fun e w' => e = .returned (.int .i64 ((dN 4 l s).1 : Int)) ∧ DR w' Q (dN 4 l s).2.1 (dN 4 l s).2.2 ∧ w.grownBy w' (some Q) := dnum_any Q l s 4 (by decide) w h
theorem dnum1 (Q : Nat) (l : List UInt8) (s : Bool) (w : World) (h : DR w Q l s) :
    Calls Try.prog 23 #[.pointer (some ⟨Q, 0, none⟩), .int .i64 1] w fun e w' => e = .returned (.int .i64 ((dN 1 l s).1 : Int)) ∧ DR w' Q (dN 1 l s).2.1 (dN 1 l s).2.2 ∧ w.grownBy w' (some Q) := dnum_any Q l s 1 (by decide) w h

set_option maxHeartbeats 2000000 in
theorem dname_any (Q : Nat) (l : List UInt8) (s : Bool) (w : World) (h : DR w Q l s) :
    Calls Try.prog 35 #[.pointer (some ⟨Q, 0, none⟩)] w fun e w' => e = .returned (.string ⟨(dName l s).1.toArray⟩) ∧ DR w' Q (dName l s).2.1 (dName l s).2.2 ∧ w.grownBy w' (some Q) := by
  have hn := dnum1 Q l s w h
  have HT : Hid (∀ w1, DR w1 Q (dN 1 l s).2.1 (dN 1 l s).2.2 → w.grownBy w1 (some Q) → Calls Try.prog 22 #[.pointer (some ⟨Q, 0, none⟩), .int .i64 ((dN 1 l s).1 : Int)] w1 fun e w' => ∃ v, e = .returned v ∧ (convert 22 9 v).run Try.prog w' = .ok (.string ⟨(dName l s).1.toArray⟩) w' ∧ DR w' Q (dName l s).2.1 (dName l s).2.2 ∧ w.grownBy w' (some Q)) := fun w1 hd hg => by
    refine (take_any Q _ _ (dN 1 l s).1 w1 hd).mono ?_
    rintro e w2 ⟨v, rfl, h1, h2, h3⟩
    exact ⟨v, rfl, oconv (h1.bytes (Nat.le_of_lt h2.lt) (dT_few hd.few)), h2, ogtrans hg h3⟩
  clear h
  generalize dName l s = y at *
  generalize dN 1 l s = x at *
  go_enter Try.func35, Try.ntmps35
  go_wp2_with (first | (go_at_call 23; refine hn.mono ?_; rintro e w1 ⟨rfl, hd, hg⟩; have HT1 := Lib.hid (HT.out w1 hd hg); clear hd hg) | (go_at_call 22; refine HT1.out.mono ?_; rintro e w2 ⟨v, rfl, hcv, hd, hg⟩; have HD := Lib.hid (And.intro hd hg); clear hd hg))
  go_ret
  exact ⟨rfl, HD.out.1, HD.out.2⟩

end Go.Proofs.Ytobdcnpifbnjaac
