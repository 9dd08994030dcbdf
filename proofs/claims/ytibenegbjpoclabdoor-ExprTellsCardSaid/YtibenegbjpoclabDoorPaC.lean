/- The contract of the reader's takeKind. -/
import Derived.Test.YtibenegbjpoclabDoorPaB
import Derived.Test.YtibenegbjpoclabDoorExLv
namespace Go.Proofs.YtibenegbjpoclabDoor
open Go.RowKit

/-- Which kind, from k on, has so many Kids, is so strong, and has the next token as its sign: 0, if none has. -/
def kindFrom (kids st : Int) (l : List Tok) : Nat → Nat → Int
  | 0, _ => 0
  | f + 1, k => if kKids k = kids ∧ kStr k = st ∧ signIs l (kSign k) = true then (k : Int) else kindFrom kids st l f (k + 1)

theorem kind_yes {kids st : Int} {l : List Tok} {k : Nat} (hk : k < 12) (hf : kindFrom kids st l 12 0 = kindFrom kids st l (12 - k) k) (h : kKids k = kids ∧ kStr k = st ∧ signIs l (kSign k) = true) : kindFrom kids st l 12 0 = (k : Int) := by
  rw [hf]
  obtain ⟨j, hj⟩ : ∃ j, 12 - k = j + 1 := ⟨11 - k, by omega⟩
  rw [hj]
  unfold kindFrom
  rw [if_pos h]
theorem kind_no {kids st : Int} {l : List Tok} {k : Nat} (hk : k < 12) (hf : kindFrom kids st l 12 0 = kindFrom kids st l (12 - k) k) (h : ¬ (kKids k = kids ∧ kStr k = st ∧ signIs l (kSign k) = true)) : kindFrom kids st l 12 0 = kindFrom kids st l (12 - (k + 1)) (k + 1) := by
  rw [hf]
  obtain ⟨j, hj⟩ : ∃ j, 12 - k = j + 1 := ⟨11 - k, by omega⟩
  have hj' : 12 - (k + 1) = j := by omega
  rw [hj, hj']
  rw [kindFrom, if_neg h]

theorem sign_is {l : List Tok} {s : List UInt8} (hs : s ≠ []) : signIs l s = decide (signOf l = s) := by
  cases l with
  | nil => simp [signIs, signOf]; exact hs
  | cons t r =>
    by_cases h : t.kind = 3
    · simp [signIs, signOf, h]
    · simp [signIs, signOf, h]; exact hs

/-- How many tokens were taken. -/
def took (k : Int) : Nat := if k = 0 then 0 else 1

def kindAt (kids st : Int) (l : List Tok) : Int := kindFrom kids st l 12 0

theorem kindAt_one (l : List Tok) : kindAt 1 0 l = if signOf l = [45] then 3 else if signOf l = [126] then 4 else 0 := by
  unfold kindAt
  simp [kindFrom, kKids, kStr, kSign, sign_is]
theorem kindAt_two (st : Nat) (l : List Tok) (h1 : 1 ≤ st) (h5 : st ≤ 5) : kindAt 2 st l = if (strengthR (signOf l)).1 = st then (strengthR (signOf l)).2 else 0 := by
  unfold kindAt strengthR
  generalize hs : signOf l = s
  have : st = 1 ∨ st = 2 ∨ st = 3 ∨ st = 4 ∨ st = 5 := by omega
  by_cases e1 : s = [124]
  · subst e1; rcases this with rfl | rfl | rfl | rfl | rfl <;> simp [kindFrom, kKids, kStr, kSign, sign_is, hs]
  by_cases e2 : s = [38]
  · subst e2; rcases this with rfl | rfl | rfl | rfl | rfl <;> simp [kindFrom, kKids, kStr, kSign, sign_is, hs]
  by_cases e3 : s = [60, 60]
  · subst e3; rcases this with rfl | rfl | rfl | rfl | rfl <;> simp [kindFrom, kKids, kStr, kSign, sign_is, hs]
  by_cases e4 : s = [62, 62]
  · subst e4; rcases this with rfl | rfl | rfl | rfl | rfl <;> simp [kindFrom, kKids, kStr, kSign, sign_is, hs]
  by_cases e5 : s = [43]
  · subst e5; rcases this with rfl | rfl | rfl | rfl | rfl <;> simp [kindFrom, kKids, kStr, kSign, sign_is, hs]
  by_cases e6 : s = [45]
  · subst e6; rcases this with rfl | rfl | rfl | rfl | rfl <;> simp [kindFrom, kKids, kStr, kSign, sign_is, hs]
  by_cases e7 : s = [42]
  · subst e7; rcases this with rfl | rfl | rfl | rfl | rfl <;> simp [kindFrom, kKids, kStr, kSign, sign_is, hs]
  rcases this with rfl | rfl | rfl | rfl | rfl <;> simp [kindFrom, kKids, kStr, kSign, sign_is, hs, e1, e2, e3, e4, e5, e6, e7]

theorem Rdr.alloc {w : World} {B : Nat} {ts : List Tok} {c : Nat} (h : Rdr w B ts c) (o : Obj) : Rdr (w.alloc o) B ts c :=
  h.below ((Below.refl w.heap.size w).alloc (Nat.le_refl _) o) h.lt
theorem galloc (w : World) (o : Obj) (r : Option Nat) : w.grownBy (w.alloc o) r := gbelow r ((Below.refl w.heap.size w).alloc (Nat.le_refl _) o) (Nat.le_refl _)

/-- Which kind, from k on, has so many Kids, and has the token as its sign: 0, if none has. -/
def kindFromT (kids : Int) (t : Tok) : Nat → Nat → Int
  | 0, _ => 0
  | f + 1, k => if kKids k = kids ∧ signT t (kSign k) = true then (k : Int) else kindFromT kids t f (k + 1)
theorem kindT_yes {kids : Int} {t : Tok} {k : Nat} (hk : k < 12) (hf : kindFromT kids t 12 0 = kindFromT kids t (12 - k) k) (h : kKids k = kids ∧ signT t (kSign k) = true) : kindFromT kids t 12 0 = (k : Int) := by
  rw [hf]
  obtain ⟨j, hj⟩ : ∃ j, 12 - k = j + 1 := ⟨11 - k, by omega⟩
  rw [hj]
  unfold kindFromT
  rw [if_pos h]
theorem kindT_no {kids : Int} {t : Tok} {k : Nat} (hk : k < 12) (hf : kindFromT kids t 12 0 = kindFromT kids t (12 - k) k) (h : ¬ (kKids k = kids ∧ signT t (kSign k) = true)) : kindFromT kids t 12 0 = kindFromT kids t (12 - (k + 1)) (k + 1) := by
  rw [hf]
  obtain ⟨j, hj⟩ : ∃ j, 12 - k = j + 1 := ⟨11 - k, by omega⟩
  have hj' : 12 - (k + 1) = j := by omega
  rw [hj, hj']
  rw [kindFromT, if_neg h]
def kindT (kids : Int) (t : Tok) : Int := kindFromT kids t 12 0

theorem kindT_of {kids : Int} (hk : kids = 1 ∨ kids = 2) (st : Int) (t : Tok) (r : List Tok) : kindAt kids st (t :: r) = if kStr (kindT kids t) = st then kindT kids t else 0 := by
  have hT : ∀ s, signT t s = signIs (t :: r) s := fun _ => rfl
  unfold kindAt kindT
  generalize hl : t :: r = l at *
  generalize hs : signOf l = s
  rcases hk with rfl | rfl
  · by_cases e1 : s = [45]
    · subst e1; simp [kindFrom, kindFromT, kKids, kStr, kSign, hT, sign_is, hs]
    by_cases e2 : s = [126]
    · subst e2; simp [kindFrom, kindFromT, kKids, kStr, kSign, hT, sign_is, hs]
    simp [kindFrom, kindFromT, kKids, kStr, kSign, hT, sign_is, hs, e1, e2]
  · by_cases e1 : s = [124]
    · subst e1; simp [kindFrom, kindFromT, kKids, kStr, kSign, hT, sign_is, hs]
    by_cases e2 : s = [38]
    · subst e2; simp [kindFrom, kindFromT, kKids, kStr, kSign, hT, sign_is, hs]
    by_cases e3 : s = [60, 60]
    · subst e3; simp [kindFrom, kindFromT, kKids, kStr, kSign, hT, sign_is, hs]
    by_cases e4 : s = [62, 62]
    · subst e4; simp [kindFrom, kindFromT, kKids, kStr, kSign, hT, sign_is, hs]
    by_cases e5 : s = [43]
    · subst e5; simp [kindFrom, kindFromT, kKids, kStr, kSign, hT, sign_is, hs]
    by_cases e6 : s = [45]
    · subst e6; simp [kindFrom, kindFromT, kKids, kStr, kSign, hT, sign_is, hs]
    by_cases e7 : s = [42]
    · subst e7; simp [kindFrom, kindFromT, kKids, kStr, kSign, hT, sign_is, hs]
    simp [kindFrom, kindFromT, kKids, kStr, kSign, hT, sign_is, hs, e1, e2, e3, e4, e5, e6, e7]

theorem kindT_range (kids : Int) (t : Tok) : 0 ≤ kindT kids t ∧ kindT kids t ≤ 11 := by
  have : ∀ f k : Nat, f + k ≤ 12 → 0 ≤ kindFromT kids t f k ∧ kindFromT kids t f k ≤ 11 := by
    intro f
    induction f with
    | zero => intro k _; exact ⟨Int.le_refl _, by show (0 : Int) ≤ 11; omega⟩
    | succ f ih =>
      intro k hk
      unfold kindFromT
      split
      · omega
      · exact ih (k + 1) (by omega)
  exact this 12 0 (by omega)

/-- The token's box. -/
def TBox (w : World) (R : Nat) (t : Tok) : Prop := w.cell? ⟨R, 0, none⟩ = some (.int .i64 t.kind) ∧ w.cell? ⟨R, 1, none⟩ = some (.int .i64 t.n) ∧ w.cell? ⟨R, 2, none⟩ = some (.string ⟨t.text.toArray⟩)
theorem TBox.below {w w' : World} {R B : Nat} {t : Tok} (h : TBox w R t) (hb : Below B w w') (hR : R < B) : TBox w' R t :=
  ⟨by rw [hb.cell (by exact hR)]; exact h.1, by rw [hb.cell (by exact hR)]; exact h.2.1, by rw [hb.cell (by exact hR)]; exact h.2.2⟩
theorem tbox_new (w : World) (t : Tok) (ty : TypeId) : TBox (w.alloc (.cells #[.int .i64 t.kind, .int .i64 t.n, .string ⟨t.text.toArray⟩] ty)) w.heap.size t := by
  have h := heap_alloc_new w (.cells #[.int .i64 t.kind, .int .i64 t.n, .string ⟨t.text.toArray⟩] ty)
  refine ⟨?_, ?_, ?_⟩ <;> simp only [World.cell?, h] <;> rfl
theorem balloc (w : World) (o : Obj) : Below w.heap.size w (w.alloc o) := (Below.refl _ _).alloc (Nat.le_refl _) _

set_option maxHeartbeats 2000000 in
theorem kindOf_any (t : Tok) (kids : Int) (w : World) (hL : KLaid w) :
    Calls Tryd.prog 55 #[.agg #[.int .i64 t.kind, .int .i64 t.n, .string ⟨t.text.toArray⟩], .int .i64 kids] w fun e w' => e = .returned (.int .i64 (kindT kids t)) ∧ Below w.heap.size w w' := by
  obtain ⟨tt, fr, hblk0⟩ := hL.blk
  have hsz := hL.sz
  have hblk : ∀ O : Obj, (w.alloc O).heap[0]? = some (.cells kCells tt fr) := fun O => ((balloc w O).block 0 hsz).trans hblk0
  clear hblk0
  go_enter Tryd.func55, Tryd.ntmps55
  go_wp2_with (refine wpList_load_row rfl 82 _ rfl 0 rfl tt kCells fr _ (hblk _) Tryd.underlying82 rfl kSize ?_)
  clear hblk hL
  go_loopw [8] (fun i wr => ∃ k : Nat, k ≤ 12 ∧ i = .int .i64 k ∧ Hid (TBox wr w.heap.size t) ∧ w.heap.size < wr.heap.size ∧ Hid (Below w.heap.size w wr) ∧ Hid (kindFromT kids t 12 0 = kindFromT kids t (12 - k) k)) (fun i _ => 12 - (intOf i).toNat)
  case atStart => exact ⟨0, Nat.zero_le _, rfl, tbox_new _ _ _, by simp, balloc _ _, rfl⟩
  case round =>
    obtain ⟨k, hk, rfl, HT, hz, HB, HF⟩ := hrel
    by_cases hlt : k < 12
    · have hi := kIndex k hlt
      have hk' : (k : Int) < 12 := by omega
      obtain ⟨q0, q1, q2⟩ := HT.out
      have hN : ∀ O : Obj, Hid (TBox (wr.alloc O) w.heap.size t) ∧ w.heap.size < (wr.alloc O).heap.size ∧ Hid (Below w.heap.size w (wr.alloc O)) := fun O => ⟨HT.out.below (balloc wr O) hz, by simp; omega, HB.out.trans ((balloc wr O).mono (by omega))⟩
      have HN : Hid (∀ O : Obj, Hid (TBox (wr.alloc O) w.heap.size t) ∧ w.heap.size < (wr.alloc O).heap.size ∧ Hid (Below w.heap.size w (wr.alloc O))) := hN
      clear hN HT HB
      by_cases h1 : kKids k = kids
      · have e1 : (kKids k == kids) = true := by simpa using h1
        have HCall : Hid (∀ W, Calls Tryd.prog 56 #[.agg #[.int .i64 t.kind, .int .i64 t.n, .string ⟨t.text.toArray⟩], .string ⟨(kSign k).toArray⟩] W fun e w' => e = .returned (.bool (signT t (kSign k))) ∧ Below W.heap.size W w') := fun W => isSign_any t ⟨(kSign k).toArray⟩ W
        cases h3 : signT t (kSign k)
        · have HN2 : Hid (kindFromT kids t 12 0 = kindFromT kids t (12 - (k + 1)) (k + 1)) := kindT_no hlt HF.out (by simp [h3])
          clear HF
          go_wp2_with (go_at_call 56; refine (HCall.out _).mono ?_; rintro e w2 ⟨rfl, hb2⟩; rw [h3]; have HB2 : Hid (Below _ _ w2) := hb2; clear hb2)
          obtain ⟨n1, n2, n3⟩ := HN.out (.cells #[.int .i64 kids, .string ⟨(kSign k).toArray⟩, .int .i64 (kStr k)] 81)
          have hz2 : w.heap.size < wr.heap.size + 1 := by omega
          exact ⟨⟨k + 1, by omega, by go_num, n1.out.below HB2.out (by simpa using hz2), Nat.lt_of_lt_of_le n2 HB2.out.size, n3.out.trans (HB2.out.mono (by simpa using Nat.le_of_lt hz2)), HN2⟩, by simp [intOf]; omega⟩
        · have HN2 : Hid (kindT kids t = (k : Int)) := kindT_yes hlt HF.out ⟨h1, h3⟩
          clear HF
          go_wp2_with (go_at_call 56; refine (HCall.out _).mono ?_; rintro e w2 ⟨rfl, hb2⟩; rw [h3]; have HB2 : Hid (Below _ _ w2) := hb2; clear hb2)
          go_ret
          rw [HN2.out]
          obtain ⟨n1, n2, n3⟩ := HN.out (.cells #[.int .i64 kids, .string ⟨(kSign k).toArray⟩, .int .i64 (kStr k)] 81)
          have hz2 : w.heap.size < wr.heap.size + 1 := by omega
          exact ⟨rfl, n3.out.trans (HB2.out.mono (by simpa using Nat.le_of_lt hz2))⟩
      · have e1 : (kKids k == kids) = false := by simpa using h1
        have HN2 : Hid (kindFromT kids t 12 0 = kindFromT kids t (12 - (k + 1)) (k + 1)) := kindT_no hlt HF.out (by simp [h1])
        clear HF
        go_wp2
        obtain ⟨n1, n2, n3⟩ := HN.out (.cells #[.int .i64 (kKids k), .string ⟨(kSign k).toArray⟩, .int .i64 (kStr k)] 81)
        exact ⟨⟨k + 1, by omega, by go_num, n1, n2, n3, HN2⟩, by simp [intOf]; omega⟩
    · have hk' : ¬ (k : Int) < 12 := by omega
      have HX : Hid (kindT kids t = 0) := by
        unfold Hid kindT
        rw [HF.out, show 12 - k = 0 by omega]; rfl
      clear HF
      go_wp2
      go_ret
      rw [HX.out]
      exact ⟨rfl, HB.out⟩

theorem kindAt_nil (kids st : Int) : kindAt kids st [] = 0 := by
  simp [kindAt, kindFrom, signIs]

set_option maxHeartbeats 2000000 in
theorem takeKind_any (kids st : Int) (B : Nat) (ts : List Tok) (c : Nat) (w : World) (hR : Rdr w B ts c) (hL : KLaid w) (hkd : kids = 1 ∨ kids = 2) :
    Calls Tryd.prog 44 #[.pointer (some ⟨B, 0, none⟩), .int .i64 kids, .int .i64 st] w fun e w' => e = .returned (.int .i64 (kindAt kids st (ts.drop c))) ∧ Rdr w' B ts (c + took (kindAt kids st (ts.drop c))) ∧ w.grownBy w' (some B) := by
  obtain ⟨ad, cap, ht, hts⟩ := hR.toks
  have hn := hR.cnt
  have hfr := hR.fr
  have hle := hR.le
  have hfew := hR.few
  unfold maxLen at hfew
  have HR : Hid (Rdr w B ts c) := hR
  have hlB := HR.out.lt
  by_cases hlt : c < ts.length
  · obtain ⟨b, o, rfl, hb, hcs⟩ := hts (by omega)
    obtain ⟨c0, c1, c2⟩ := hcs c hlt
    have e0 : ((c : Int) == (ts.length : Int)) = false := by simp; omega
    have hc1 : (c : Int) < ts.length := by omega
    have hne : ¬ b = B := by omega
    have hlb : b < w.heap.size := by omega
    rw [drop_tok hlt, kindT_of hkd]
    obtain ⟨hm0, hm11⟩ := kindT_range kids ts[c]
    have HCall : Hid (∀ W, KLaid W → Calls Tryd.prog 55 #[.agg #[.int .i64 ts[c].kind, .int .i64 ts[c].n, .string ⟨ts[c].text.toArray⟩], .int .i64 kids] W fun e w' => e = .returned (.int .i64 (kindT kids ts[c])) ∧ Below W.heap.size W w') := fun W hW => kindOf_any ts[c] kids W hW
    clear hts hcs hR hkd
    generalize kindT kids ts[c] = m at *
    have HL : Hid (KLaid w) := hL
    clear hL
    by_cases hz : m = 0
    · have ez : (m == 0) = true := by simpa using hz
      have hif : (if kStr m = st then m else 0) = 0 := by rw [hz]; split <;> rfl
      rw [hif, took, if_pos rfl]
      clear hif
      go_enter Tryd.func44, Tryd.ntmps44
      go_wp2
      go_quiet (fail)
      go_wp2_with fail
      obtain ⟨w1, hw1⟩ : ∃ w1, w.drewN nq = w1 := ⟨_, rfl⟩
      have hd : Below w.heap.size w (w.drewN nq) := Go.Joins.below_draws _ _ _
      rw [hw1] at hd ⊢
      clear hw1
      have HKL : Hid (∀ W, Below w1.heap.size w1 W → KLaid W) := fun W h => (HL.out.below hd HL.out.sz).below h (Nat.lt_of_lt_of_le HL.out.sz hd.size)
      have HD : Hid (Below w.heap.size w w1) := hd
      rw [← hd.cell (by exact hlB)] at ht hn
      rw [← hd.frozen (by exact hlB)] at hfr
      rw [← hd.cell (by exact hlb)] at c0 c1 c2
      have hlB1 : B < w1.heap.size := Nat.lt_of_lt_of_le hlB hd.size
      have hlb1 : b < w1.heap.size := Nat.lt_of_lt_of_le hlb hd.size
      clear hd
      go_region_held3 (fun w' => (B < w'.heap.size ∧ b < w'.heap.size) ∧ w'.cell? ⟨B, 0, none⟩ = some (.slice (some ⟨b, o, none⟩) ts.length cap) ∧ w'.cell? ⟨B, 1, none⟩ = some (.int .i64 c) ∧ w'.frozen? ⟨B, 1, none⟩ = false ∧ w'.cell? ⟨b, o + c * 3, none⟩ = some (.int .i64 ts[c].kind) ∧ w'.cell? ⟨b, o + c * 3 + 1, none⟩ = some (.int .i64 ts[c].n) ∧ w'.cell? ⟨b, o + c * 3 + 2, none⟩ = some (.string ⟨ts[c].text.toArray⟩) ∧ Below w1.heap.size w1 w')
        (first | exact keepR hb1 (by assumption) | exact ⟨⟨hlB1, hlb1⟩, ht, hn, hfr, c0, c1, c2, (Below.refl _ _).drew⟩)
        ((go_at_call 55; refine (HCall.out _ (HKL.out _ (Below.refl _ _).drew)).mono ?_; rintro e w' ⟨rfl, hb1⟩))
      rename_i hH
      clear hn hfr c0 c1 c2 ht hb1
      obtain ⟨_, _, hn, hfr, _, _, _, hB⟩ := hH
      have HB : Hid (Below w1.heap.size w1 w') := hB
      have k2 := (HKL.out w' hB).k2 m hm0 hm11
      have HG : Hid (w.grownBy w' (some B)) := gtrans (gbelow _ HD.out (Nat.le_refl _)) (gbelow _ hB (Nat.le_refl _))
      have HR1 : Hid (Rdr w' B ts c) := (HR.out.below HD.out hlB).below hB hlB1
      clear hB HKL HL HD
      have hm12 : m < 12 := by omega
      go_wp2_with fail
      go_ret
      exact ⟨rfl, HR1.out, HG.out⟩
    · have ez : (m == 0) = false := by simpa using hz
      by_cases hst : kStr m = st
      · have es : (kStr m != st) = false := by simp [hst]
        rw [if_pos hst, took, if_neg hz]
        go_enter Tryd.func44, Tryd.ntmps44
        go_wp2
        go_quiet (fail)
        go_wp2_with fail
        obtain ⟨w1, hw1⟩ : ∃ w1, w.drewN nq = w1 := ⟨_, rfl⟩
        have hd : Below w.heap.size w (w.drewN nq) := Go.Joins.below_draws _ _ _
        rw [hw1] at hd ⊢
        clear hw1
        have HKL : Hid (∀ W, Below w1.heap.size w1 W → KLaid W) := fun W h => (HL.out.below hd HL.out.sz).below h (Nat.lt_of_lt_of_le HL.out.sz hd.size)
        have HD : Hid (Below w.heap.size w w1) := hd
        rw [← hd.cell (by exact hlB)] at ht hn
        rw [← hd.frozen (by exact hlB)] at hfr
        rw [← hd.cell (by exact hlb)] at c0 c1 c2
        have hlB1 : B < w1.heap.size := Nat.lt_of_lt_of_le hlB hd.size
        have hlb1 : b < w1.heap.size := Nat.lt_of_lt_of_le hlb hd.size
        clear hd
        go_region_held3 (fun w' => (B < w'.heap.size ∧ b < w'.heap.size) ∧ w'.cell? ⟨B, 0, none⟩ = some (.slice (some ⟨b, o, none⟩) ts.length cap) ∧ w'.cell? ⟨B, 1, none⟩ = some (.int .i64 c) ∧ w'.frozen? ⟨B, 1, none⟩ = false ∧ w'.cell? ⟨b, o + c * 3, none⟩ = some (.int .i64 ts[c].kind) ∧ w'.cell? ⟨b, o + c * 3 + 1, none⟩ = some (.int .i64 ts[c].n) ∧ w'.cell? ⟨b, o + c * 3 + 2, none⟩ = some (.string ⟨ts[c].text.toArray⟩) ∧ Below w1.heap.size w1 w')
          (first | exact keepR hb1 (by assumption) | exact ⟨⟨hlB1, hlb1⟩, ht, hn, hfr, c0, c1, c2, (Below.refl _ _).drew⟩)
          ((go_at_call 55; refine (HCall.out _ (HKL.out _ (Below.refl _ _).drew)).mono ?_; rintro e w' ⟨rfl, hb1⟩))
        rename_i hH
        clear hn hfr c0 c1 c2 ht hb1
        obtain ⟨_, _, hn, hfr, _, _, _, hB⟩ := hH
        have HB : Hid (Below w1.heap.size w1 w') := hB
        have k2 := (HKL.out w' hB).k2 m hm0 hm11
        have HG : Hid (w.grownBy w' (some B)) := gtrans (gbelow _ HD.out (Nat.le_refl _)) (gbelow _ hB (Nat.le_refl _))
        have HR1 : Hid (Rdr w' B ts c) := (HR.out.below HD.out hlB).below hB hlB1
        clear hB HKL HL HD
        have hm12 : m < 12 := by omega
        go_wp2_with fail
        go_ret
        exact ⟨rfl, HR1.out.set (c + 1) (by omega), gtrans HG.out (gset _ _ _ _)⟩
      · have es : (kStr m != st) = true := by simp [hst]
        rw [if_neg hst, took, if_pos rfl]
        go_enter Tryd.func44, Tryd.ntmps44
        go_wp2
        go_quiet (fail)
        go_wp2_with fail
        obtain ⟨w1, hw1⟩ : ∃ w1, w.drewN nq = w1 := ⟨_, rfl⟩
        have hd : Below w.heap.size w (w.drewN nq) := Go.Joins.below_draws _ _ _
        rw [hw1] at hd ⊢
        clear hw1
        have HKL : Hid (∀ W, Below w1.heap.size w1 W → KLaid W) := fun W h => (HL.out.below hd HL.out.sz).below h (Nat.lt_of_lt_of_le HL.out.sz hd.size)
        have HD : Hid (Below w.heap.size w w1) := hd
        rw [← hd.cell (by exact hlB)] at ht hn
        rw [← hd.frozen (by exact hlB)] at hfr
        rw [← hd.cell (by exact hlb)] at c0 c1 c2
        have hlB1 : B < w1.heap.size := Nat.lt_of_lt_of_le hlB hd.size
        have hlb1 : b < w1.heap.size := Nat.lt_of_lt_of_le hlb hd.size
        clear hd
        go_region_held3 (fun w' => (B < w'.heap.size ∧ b < w'.heap.size) ∧ w'.cell? ⟨B, 0, none⟩ = some (.slice (some ⟨b, o, none⟩) ts.length cap) ∧ w'.cell? ⟨B, 1, none⟩ = some (.int .i64 c) ∧ w'.frozen? ⟨B, 1, none⟩ = false ∧ w'.cell? ⟨b, o + c * 3, none⟩ = some (.int .i64 ts[c].kind) ∧ w'.cell? ⟨b, o + c * 3 + 1, none⟩ = some (.int .i64 ts[c].n) ∧ w'.cell? ⟨b, o + c * 3 + 2, none⟩ = some (.string ⟨ts[c].text.toArray⟩) ∧ Below w1.heap.size w1 w')
          (first | exact keepR hb1 (by assumption) | exact ⟨⟨hlB1, hlb1⟩, ht, hn, hfr, c0, c1, c2, (Below.refl _ _).drew⟩)
          ((go_at_call 55; refine (HCall.out _ (HKL.out _ (Below.refl _ _).drew)).mono ?_; rintro e w' ⟨rfl, hb1⟩))
        rename_i hH
        clear hn hfr c0 c1 c2 ht hb1
        obtain ⟨_, _, hn, hfr, _, _, _, hB⟩ := hH
        have HB : Hid (Below w1.heap.size w1 w') := hB
        have k2 := (HKL.out w' hB).k2 m hm0 hm11
        have HG : Hid (w.grownBy w' (some B)) := gtrans (gbelow _ HD.out (Nat.le_refl _)) (gbelow _ hB (Nat.le_refl _))
        have HR1 : Hid (Rdr w' B ts c) := (HR.out.below HD.out hlB).below hB hlB1
        clear hB HKL HL HD
        have hm12 : m < 12 := by omega
        go_wp2_with fail
        go_ret
        exact ⟨rfl, HR1.out, HG.out⟩
  · have e0 : ((c : Int) == (ts.length : Int)) = true := by simp; omega
    rw [List.drop_eq_nil_of_le (by omega), kindAt_nil]
    clear hts hR
    go_enter Tryd.func44, Tryd.ntmps44
    go_wp2
    go_quiet (fail)
    go_wp2
    go_ret
    exact ⟨rfl, HR.out.draws nq, gdraws w nq _⟩

end Go.Proofs.YtibenegbjpoclabDoor
