/- The text of bytes; the contracts of alone, instruction, data. -/
import Derived.Test.YtgadpimknobljaaDoorDsC
import Derived.Test.YtgadpimknobljaaDoorIsaGet
import Derived.Test.YtgadpimknobljaaDoorIsaTurn
namespace Go.Proofs.YtgadpimknobljaaDoor
open Go.RowKit Isa

/-- A field of what a half word is decoded to. -/
def dV (x : Int) (i : Nat) : Int := match decV x with
  | .agg a => intOf (a.getD i (.int .i64 0))
  | _ => 0
theorem lay_15 (s : Int) : 0 ≤ layN s ∧ layN s ≤ 15 ∧ 0 ≤ layM s ∧ layM s ≤ 15 := by
  by_cases h : 0 ≤ s ∧ s ≤ 11
  · obtain ⟨k, hk⟩ : ∃ k : Nat, s = k := ⟨s.toNat, by omega⟩
    subst hk
    have h' : ∀ j : Fin 12, 0 ≤ layN (j.val : Int) ∧ layN (j.val : Int) ≤ 15 ∧ 0 ≤ layM (j.val : Int) ∧ layM (j.val : Int) ≤ 15 := by decide
    exact h' ⟨k, by omega⟩
  · obtain ⟨e0, e1, _, _⟩ := lay_out h
    rw [e0, e1]; omega
/-- An instruction that may be. -/
theorem right_bd {op n m imm : Int} (h : wrongI op n m imm = 0) : 0 ≤ n ∧ n ≤ 15 ∧ 0 ≤ m ∧ m ≤ 15 ∧ -10000 ≤ imm ∧ imm ≤ 10000 := by
  have h1 := wrongI_zero h
  have h2 := lay_15 (opShape op)
  have h3 := lay_bd (opShape op)
  omega
theorem dV_all (x : Int) : decV x = .agg #[.int .i64 (dV x 0), .int .i64 (dV x 1), .int .i64 (dV x 2), .int .i64 (dV x 3)] ∧ 0 ≤ dV x 1 ∧ dV x 1 ≤ 15 ∧ 0 ≤ dV x 2 ∧ dV x 2 ≤ 15 ∧ -10000 ≤ dV x 3 ∧ dV x 3 ≤ 10000 := by
  by_cases h : decE x = 0
  · obtain ⟨op, n, m, imm, hd, hw, _⟩ := turn2 h
    have hb := right_bd hw
    have e0 : dV x 0 = op := by unfold dV; rw [hd]; rfl
    have e1 : dV x 1 = n := by unfold dV; rw [hd]; rfl
    have e2 : dV x 2 = m := by unfold dV; rw [hd]; rfl
    have e3 : dV x 3 = imm := by unfold dV; rw [hd]; rfl
    rw [e0, e1, e2, e3]
    exact ⟨hd, hb⟩
  · have hd := turn3 h
    have e0 : dV x 0 = 0 := by unfold dV; rw [hd]; rfl
    have e1 : dV x 1 = 0 := by unfold dV; rw [hd]; rfl
    have e2 : dV x 2 = 0 := by unfold dV; rw [hd]; rfl
    have e3 : dV x 3 = 0 := by unfold dV; rw [hd]; rfl
    rw [e0, e1, e2, e3]
    exact ⟨hd, by omega, by omega, by omega, by omega, by omega, by omega⟩

/-- Half word k. -/
def halfW (bs : Nat → Int) (k : Nat) : Int := bs (2 * k) * 256 + bs (2 * k + 1)
/-- Where it leads. -/
def goalOf (bs : Nat → Int) (k : Nat) : Int := toI (dV (halfW bs k) 0) (dV (halfW bs k) 3) (2 * k)
/-- Whether half word k is told as an instruction. -/
def toldB (bs : Nat → Int) (len k : Nat) : Bool :=
  decide (2 * k + 1 < len) && decide (decE (halfW bs k) = 0) && !(toB (dV (halfW bs k) 0) && (decide (goalOf bs k < 0) || decide ((len : Int) ≤ goalOf bs k)))
/-- A field of the instruction that is told there. -/
def tV (bs : Nat → Int) (len k i : Nat) : Int := if toldB bs len k = true then dV (halfW bs k) i else 0
def leadB (bs : Nat → Int) (len k : Nat) : Bool := toldB bs len k && toB (dV (halfW bs k) 0)
/-- The line of half word k. -/
def rowL (bs : Nat → Int) (len k : Nat) : List UInt8 :=
  if toldB bs len k = true then lineL (dV (halfW bs k) 0) (dV (halfW bs k) 1) (dV (halfW bs k) 2) (dV (halfW bs k) 3) (2 * k)
  else if 2 * k + 1 < len then [46, 119, 111, 114, 100, 32] ++ Lib.itoa (halfW bs k) else [46, 98, 121, 116, 101, 32] ++ Lib.itoa (bs (2 * k))
/-- Does one of the first n lead to place 2 k? -/
def ledB (bs : Nat → Int) (len n k : Nat) : Bool := (List.range n).any fun j => leadB bs len j && decide (goalOf bs j = 2 * k)

/-- Bytes that are read. -/
structure BR (w : World) (ad : Option Addr) (len : Nat) (bs : Nat → Int) : Prop where
  byt : IsByte bs
  few : len ≤ 1048576
  row : 0 < len → ∃ b off, ad = some ⟨b, off, none⟩ ∧ b < w.heap.size ∧ ∀ i, i < len → w.cell? ⟨b, off + i, none⟩ = some (.int .u8 (bs i))
theorem BR.next {w w' : World} {ad : Option Addr} {len : Nat} {bs : Nat → Int} (h : BR w ad len bs) (hb : Below w.heap.size w w') : BR w' ad len bs :=
  ⟨h.byt, h.few, fun h0 => by
    obtain ⟨b, off, e, hl, hc⟩ := h.row h0
    exact ⟨b, off, e, Nat.lt_of_lt_of_le hl hb.size, fun i hi => (hb.cell (p := ⟨b, off + i, none⟩) hl).trans (hc i hi)⟩⟩

theorem get_one (bs : Nat → Int) (len k : Nat) (h : 2 * k < len) : getTo bs len (2 * k : Nat) 1 = bs (2 * k) := by
  simp only [getTo, byteAt]
  rw [if_pos (by omega)]
  have e : ((2 * k : Nat) + (0 : Nat) : Int).toNat = 2 * k := by omega
  rw [e]; omega
theorem get_two (bs : Nat → Int) (len k : Nat) (h : 2 * k + 1 < len) : getTo bs len (2 * k : Nat) 2 = halfW bs k := by
  simp only [getTo, byteAt]
  rw [if_pos (by omega), if_pos (by omega)]
  have e : ((2 * k : Nat) + (0 : Nat) : Int).toNat = 2 * k := by omega
  have e' : ((2 * k : Nat) + (1 : Nat) : Int).toNat = 2 * k + 1 := by omega
  rw [e, e', halfW]; omega

theorem getw_any {w : World} {ad : Option Addr} {len cap : Nat} {bs : Nat → Int} (hR : BR w ad len bs) (k : Nat) (a : Int) (ha : a = 2 * k) (h : 2 * k + 1 < len) :
    Calls Tryd.prog 31 #[.slice ad len cap, .int .i64 a, .int .i64 2] w fun e w' => e = .returned (.int .i64 (halfW bs k)) ∧ w' = w := by
  obtain rfl : a = (2 * k : Nat) := by omega
  have hf := hR.few
  refine (get_any ad len cap bs (2 * k : Nat) 2 w hR.byt (by unfold maxLen; omega) (fun h0 => ?_) (by omega) (by omega) (by omega) (by omega)).mono ?_
  · obtain ⟨b, off, e, _, hc⟩ := hR.row h0
    exact ⟨b, off, e, hc⟩
  · rintro e w' ⟨rfl, rfl⟩
    exact ⟨by rw [← get_two bs len k h]; rfl, rfl⟩
theorem getb_any {w : World} {ad : Option Addr} {len cap : Nat} {bs : Nat → Int} (hR : BR w ad len bs) (k : Nat) (a : Int) (ha : a = 2 * k) (h : 2 * k < len) :
    Calls Tryd.prog 31 #[.slice ad len cap, .int .i64 a, .int .i64 1] w fun e w' => e = .returned (.int .i64 (bs (2 * k))) ∧ w' = w := by
  obtain rfl : a = (2 * k : Nat) := by omega
  have hf := hR.few
  refine (get_any ad len cap bs (2 * k : Nat) 1 w hR.byt (by unfold maxLen; omega) (fun h0 => ?_) (by omega) (by omega) (by omega) (by omega)).mono ?_
  · obtain ⟨b, off, e, _, hc⟩ := hR.row h0
    exact ⟨b, off, e, hc⟩
  · rintro e w' ⟨rfl, rfl⟩
    exact ⟨by rw [← get_one bs len k h]; rfl, rfl⟩

theorem alone_any (ad : Option Addr) (len cap : Nat) (a : Int) (w : World) (h1 : len ≤ 1048576) :
    Calls Tryd.prog 30 #[.slice ad len cap, .int .i64 a] w fun e w' => e = .returned (.bool (decide (a + 1 = len))) ∧ w' = w := by
  have hx : (a == (len : Int) - 1) = decide (a + 1 = len) := by
    by_cases h : a + 1 = len
    · simp [h]; omega
    · simp [h]; omega
  go_enter Tryd.func30, Tryd.ntmps30
  go_wp2
  go_ret
  exact ⟨by rw [← hx]; rfl, rfl⟩

theorem told_lone {bs : Nat → Int} {len k : Nat} (h : ¬ 2 * k + 1 < len) : toldB bs len k = false := by
  unfold toldB; simp [h]
theorem told_bad {bs : Nat → Int} {len k : Nat} (h : decE (halfW bs k) ≠ 0) : toldB bs len k = false := by
  unfold toldB; simp [h]
theorem told_is {bs : Nat → Int} {len k : Nat} (h1 : 2 * k + 1 < len) (h2 : decE (halfW bs k) = 0) : toldB bs len k = !(toB (dV (halfW bs k) 0) && (decide (goalOf bs k < 0) || decide ((len : Int) ≤ goalOf bs k))) := by
  unfold toldB; simp [h1, h2]
/-- What instruction answers. -/
def insE (bs : Nat → Int) (len k : Nat) : Ending := .returned (.tuple #[.agg #[.int .i64 (tV bs len k 0), .int .i64 (tV bs len k 1), .int .i64 (tV bs len k 2), .int .i64 (tV bs len k 3)], .bool (toldB bs len k)])
theorem insE_no {bs : Nat → Int} {len k : Nat} (h : toldB bs len k = false) : insE bs len k = .returned (.tuple #[.agg #[.int .i64 0, .int .i64 0, .int .i64 0, .int .i64 0], .bool false]) := by
  unfold insE tV; simp [h]
theorem insE_yes {bs : Nat → Int} {len k : Nat} (h : toldB bs len k = true) : insE bs len k = .returned (.tuple #[.agg #[.int .i64 (dV (halfW bs k) 0), .int .i64 (dV (halfW bs k) 1), .int .i64 (dV (halfW bs k) 2), .int .i64 (dV (halfW bs k) 3)], .bool true]) := by
  unfold insE tV; simp [h]

theorem blk_froz {w : World} {b i : Nat} {c : Array Value} {t : TypeId} (h : w.heap[b]? = some (.cells c t (0, 0))) : w.frozen? ⟨b, i, none⟩ = false := by
  unfold World.frozen?
  simp only [h]
  simp
theorem blk_new (w : World) (c : Array Value) (t : TypeId) : (w.alloc (.cells c t)).heap[w.heap.size]? = some (.cells c t (0, 0)) := by
  unfold World.alloc
  simp only [Array.getElem?_push_size]
theorem ins_step {w w1 W2 : World} {z d : Array Value} (h1 : Below (w.alloc (.cells z 24)).heap.size (w.alloc (.cells z 24)) w1) (h2 : Below (w1.alloc (.cells d 24)).heap.size (w1.alloc (.cells d 24)) W2) :
    W2.heap[w.heap.size]? = some (.cells z 24 (0, 0)) ∧ W2.heap[w1.heap.size]? = some (.cells d 24 (0, 0)) ∧ w.heap.size < w1.heap.size ∧ Below w.heap.size w W2 := by
  have e1 := h1.size
  simp at e1
  have h1' : Below w.heap.size w w1 := (oalloc w _).trans (h1.mono (by simp))
  refine ⟨?_, ?_, by omega, (h1'.trans ((oalloc w1 _).mono (by omega))).trans (h2.mono (by simp; omega))⟩
  · rw [h2.block _ (by simp; omega), Below.heap_alloc w1 _ _ (by omega), h1.block _ (by simp)]
    exact blk_new _ _ _
  · rw [h2.block _ (by simp)]
    exact blk_new _ _ _
theorem four {w W : World} {B : Nat} (h : Below B w W) {b : Nat} (hb : B ≤ b) (x0 x1 x2 x3 : Value) : Below B w ((((W.setCell ⟨b, 0, none⟩ x0).setCell ⟨b, 1, none⟩ x1).setCell ⟨b, 2, none⟩ x2).setCell ⟨b, 3, none⟩ x3) :=
  (((h.setCell hb _).setCell hb _).setCell hb _).setCell hb _

set_option maxHeartbeats 4000000 in
theorem ins_any {w : World} {ad : Option Addr} {len cap : Nat} {bs : Nat → Int} (hD : DL w) (hR : BR w ad len bs) (k : Nat) (a : Int) (ha : a = 2 * k) (h : 2 * k < len) :
    Calls Tryd.prog 27 #[.slice ad len cap, .int .i64 a] w fun e w' => e = insE bs len k ∧ Below w.heap.size w w' := by
  have hf := hR.few
  have HB0 := Lib.hid (oalloc w (.cells #[.int .i64 0, .int .i64 0, .int .i64 0, .int .i64 0] 24))
  have HAL := Lib.hid (alone_any ad len cap a (w.alloc (.cells #[.int .i64 0, .int .i64 0, .int .i64 0, .int .i64 0] 24)) hf)
  by_cases hl : 2 * k + 1 < len
  · have hla : decide (a + 1 = len) = false := by simp; omega
    rw [hla] at HAL
    have HG := Lib.hid (getw_any (cap := cap) (hR.next HB0.out) k a ha hl)
    have HDC := Lib.hid (decode_any (halfW bs k) (w.alloc (.cells #[.int .i64 0, .int .i64 0, .int .i64 0, .int .i64 0] 24)) (hD.next HB0.out).laid)
    have HA := Lib.hid ha
    obtain ⟨hdv, b1, b2, b3, b4, b5, b6⟩ := dV_all (halfW bs k)
    rw [hdv] at HDC
    by_cases hE : decE (halfW bs k) = 0
    · rw [hE] at HDC
      have HTO : Hid (∀ W, Below w.heap.size w W → Calls Tryd.prog 7 #[.agg #[.int .i64 (dV (halfW bs k) 0), .int .i64 (dV (halfW bs k) 1), .int .i64 (dV (halfW bs k) 2), .int .i64 (dV (halfW bs k) 3)], .int .i64 a] W fun e w' => e = .returned (.tuple #[.int .i64 (goalOf bs k), .bool (toB (dV (halfW bs k) 0))]) ∧ Below W.heap.size W w') := fun W hb => by
        have := to_any (dV (halfW bs k) 0) (dV (halfW bs k) 1) (dV (halfW bs k) 2) (dV (halfW bs k) 3) a W (hD.next hb).laid (by omega) (by omega) b5 b6
        rw [ha] at this ⊢
        exact this
      have HIS := Lib.hid (told_is (bs := bs) hl hE)
      have HY := Lib.hid (insE_yes (bs := bs) (len := len) (k := k))
      have HNO := Lib.hid (insE_no (bs := bs) (len := len) (k := k))
      generalize insE bs len k = E at *
      generalize toldB bs len k = td at *
      generalize goalOf bs k = gl at *
      generalize halfW bs k = x at *
      clear ha hdv b1 b2 b3 b4 b5 b6 hE hla hD hR
      generalize toB (dV x 0) = tb at *
      generalize dV x 0 = d0 at *
      generalize dV x 1 = d1 at *
      generalize dV x 2 = d2 at *
      generalize dV x 3 = d3 at *
      have hsplit : (tb = false) ∨ (tb = true ∧ gl < 0) ∨ (tb = true ∧ ¬ gl < 0 ∧ (len : Int) ≤ gl) ∨ (tb = true ∧ ¬ gl < 0 ∧ ¬ (len : Int) ≤ gl) := by
        cases tb
        · exact Or.inl rfl
        · by_cases h1 : gl < 0
          · exact Or.inr (Or.inl ⟨rfl, h1⟩)
          · by_cases h2 : (len : Int) ≤ gl
            · exact Or.inr (Or.inr (Or.inl ⟨rfl, h1, h2⟩))
            · exact Or.inr (Or.inr (Or.inr ⟨rfl, h1, h2⟩))
      rcases hsplit with rfl | ⟨rfl, c1⟩ | ⟨rfl, c1, c2⟩ | ⟨rfl, c1, c2⟩
      · skip
        rw [HY.out (by rw [HIS.out]; simp )]
        clear HY HNO HIS
        go_enter Tryd.func27, Tryd.ntmps27
        go_wp2_with (first | (go_at_call 30; refine HAL.out.mono ?_; rintro e w1 ⟨rfl, rfl⟩) | (go_at_call 31; refine HG.out.mono ?_; rintro e w1 ⟨rfl, rfl⟩) | (go_at_call 37; refine HDC.out.mono ?_; rintro e w1 ⟨rfl, hb1⟩; have HB1 := Lib.hid hb1; clear hb1) | fail)
        refine (HTO.out _ ((HB0.out.trans (HB1.out.mono (by simp))).trans ((oalloc w1 _).mono (by have := HB1.out.size; simp at this; omega)))).mono ?_
        rintro e W2 ⟨rfl, hb2⟩
        obtain ⟨k0, k1, hlt, hbW⟩ := ins_step HB1.out hb2
        have HBW := Lib.hid hbW
        have x0 := cell_of_block (i := 0) k1 rfl
        have x1 := cell_of_block (i := 1) k1 rfl
        have x2 := cell_of_block (i := 2) k1 rfl
        have x3 := cell_of_block (i := 3) k1 rfl
        have y0 := cell_of_block (i := 0) k0 rfl
        have y1 := cell_of_block (i := 1) k0 rfl
        have y2 := cell_of_block (i := 2) k0 rfl
        have y3 := cell_of_block (i := 3) k0 rfl
        have z0 := blk_froz (i := 0) k0
        have z1 := blk_froz (i := 1) k0
        have z2 := blk_froz (i := 2) k0
        have z3 := blk_froz (i := 3) k0
        have hsW : w.heap.size < W2.heap.size := (Array.getElem?_eq_some_iff.1 k0).1
        clear hbW hb2 k0 k1
        go_wp2
        refine bodyPost_ret (v := .tuple #[.agg #[.int .i64 d0, .int .i64 d1, .int .i64 d2, .int .i64 d3], .bool true]) (by simp [results, Tryd.results27, go_sem, y0, y1, y2, y3]) rfl ⟨rfl, four HBW.out (Nat.le_refl _) _ _ _ _⟩
      · skip
        rw [HNO.out (by rw [HIS.out]; simp [c1])]
        clear HY HNO HIS
        go_enter Tryd.func27, Tryd.ntmps27
        go_wp2_with (first | (go_at_call 30; refine HAL.out.mono ?_; rintro e w1 ⟨rfl, rfl⟩) | (go_at_call 31; refine HG.out.mono ?_; rintro e w1 ⟨rfl, rfl⟩) | (go_at_call 37; refine HDC.out.mono ?_; rintro e w1 ⟨rfl, hb1⟩; have HB1 := Lib.hid hb1; clear hb1) | fail)
        refine (HTO.out _ ((HB0.out.trans (HB1.out.mono (by simp))).trans ((oalloc w1 _).mono (by have := HB1.out.size; simp at this; omega)))).mono ?_
        rintro e W2 ⟨rfl, hb2⟩
        obtain ⟨k0, k1, hlt, hbW⟩ := ins_step HB1.out hb2
        have HBW := Lib.hid hbW
        have x0 := cell_of_block (i := 0) k1 rfl
        have x1 := cell_of_block (i := 1) k1 rfl
        have x2 := cell_of_block (i := 2) k1 rfl
        have x3 := cell_of_block (i := 3) k1 rfl
        have y0 := cell_of_block (i := 0) k0 rfl
        have y1 := cell_of_block (i := 1) k0 rfl
        have y2 := cell_of_block (i := 2) k0 rfl
        have y3 := cell_of_block (i := 3) k0 rfl
        have z0 := blk_froz (i := 0) k0
        have z1 := blk_froz (i := 1) k0
        have z2 := blk_froz (i := 2) k0
        have z3 := blk_froz (i := 3) k0
        have hsW : w.heap.size < W2.heap.size := (Array.getElem?_eq_some_iff.1 k0).1
        clear hbW hb2 k0 k1
        go_wp2
        refine bodyPost_ret (v := .tuple #[.agg #[.int .i64 0, .int .i64 0, .int .i64 0, .int .i64 0], .bool false]) (by simp [results, Tryd.results27, go_sem, y0, y1, y2, y3]) rfl ⟨rfl, four HBW.out (Nat.le_refl _) _ _ _ _⟩
      · skip
        rw [HNO.out (by rw [HIS.out]; simp [c2])]
        clear HY HNO HIS
        go_enter Tryd.func27, Tryd.ntmps27
        go_wp2_with (first | (go_at_call 30; refine HAL.out.mono ?_; rintro e w1 ⟨rfl, rfl⟩) | (go_at_call 31; refine HG.out.mono ?_; rintro e w1 ⟨rfl, rfl⟩) | (go_at_call 37; refine HDC.out.mono ?_; rintro e w1 ⟨rfl, hb1⟩; have HB1 := Lib.hid hb1; clear hb1) | fail)
        refine (HTO.out _ ((HB0.out.trans (HB1.out.mono (by simp))).trans ((oalloc w1 _).mono (by have := HB1.out.size; simp at this; omega)))).mono ?_
        rintro e W2 ⟨rfl, hb2⟩
        obtain ⟨k0, k1, hlt, hbW⟩ := ins_step HB1.out hb2
        have HBW := Lib.hid hbW
        have x0 := cell_of_block (i := 0) k1 rfl
        have x1 := cell_of_block (i := 1) k1 rfl
        have x2 := cell_of_block (i := 2) k1 rfl
        have x3 := cell_of_block (i := 3) k1 rfl
        have y0 := cell_of_block (i := 0) k0 rfl
        have y1 := cell_of_block (i := 1) k0 rfl
        have y2 := cell_of_block (i := 2) k0 rfl
        have y3 := cell_of_block (i := 3) k0 rfl
        have z0 := blk_froz (i := 0) k0
        have z1 := blk_froz (i := 1) k0
        have z2 := blk_froz (i := 2) k0
        have z3 := blk_froz (i := 3) k0
        have hsW : w.heap.size < W2.heap.size := (Array.getElem?_eq_some_iff.1 k0).1
        clear hbW hb2 k0 k1
        go_wp2
        refine bodyPost_ret (v := .tuple #[.agg #[.int .i64 0, .int .i64 0, .int .i64 0, .int .i64 0], .bool false]) (by simp [results, Tryd.results27, go_sem, y0, y1, y2, y3]) rfl ⟨rfl, four HBW.out (Nat.le_refl _) _ _ _ _⟩
      · skip
        rw [HY.out (by rw [HIS.out]; simp [c1, c2])]
        clear HY HNO HIS
        go_enter Tryd.func27, Tryd.ntmps27
        go_wp2_with (first | (go_at_call 30; refine HAL.out.mono ?_; rintro e w1 ⟨rfl, rfl⟩) | (go_at_call 31; refine HG.out.mono ?_; rintro e w1 ⟨rfl, rfl⟩) | (go_at_call 37; refine HDC.out.mono ?_; rintro e w1 ⟨rfl, hb1⟩; have HB1 := Lib.hid hb1; clear hb1) | fail)
        refine (HTO.out _ ((HB0.out.trans (HB1.out.mono (by simp))).trans ((oalloc w1 _).mono (by have := HB1.out.size; simp at this; omega)))).mono ?_
        rintro e W2 ⟨rfl, hb2⟩
        obtain ⟨k0, k1, hlt, hbW⟩ := ins_step HB1.out hb2
        have HBW := Lib.hid hbW
        have x0 := cell_of_block (i := 0) k1 rfl
        have x1 := cell_of_block (i := 1) k1 rfl
        have x2 := cell_of_block (i := 2) k1 rfl
        have x3 := cell_of_block (i := 3) k1 rfl
        have y0 := cell_of_block (i := 0) k0 rfl
        have y1 := cell_of_block (i := 1) k0 rfl
        have y2 := cell_of_block (i := 2) k0 rfl
        have y3 := cell_of_block (i := 3) k0 rfl
        have z0 := blk_froz (i := 0) k0
        have z1 := blk_froz (i := 1) k0
        have z2 := blk_froz (i := 2) k0
        have z3 := blk_froz (i := 3) k0
        have hsW : w.heap.size < W2.heap.size := (Array.getElem?_eq_some_iff.1 k0).1
        clear hbW hb2 k0 k1
        go_wp2
        refine bodyPost_ret (v := .tuple #[.agg #[.int .i64 d0, .int .i64 d1, .int .i64 d2, .int .i64 d3], .bool true]) (by simp [results, Tryd.results27, go_sem, y0, y1, y2, y3]) rfl ⟨rfl, four HBW.out (Nat.le_refl _) _ _ _ _⟩
    · have HNO := Lib.hid (insE_no (told_bad (len := len) hE))
      have hE' : (decE (halfW bs k) == 0) = false := by simp [hE]
      rw [HNO.out]
      generalize halfW bs k = x at *
      clear ha hdv b1 b2 b3 b4 b5 b6 hla hD hR HNO
      generalize decE x = ee at *
      go_enter Tryd.func27, Tryd.ntmps27
      go_wp2_with (first | (go_at_call 30; refine HAL.out.mono ?_; rintro e w1 ⟨rfl, rfl⟩) | (go_at_call 31; refine HG.out.mono ?_; rintro e w1 ⟨rfl, rfl⟩) | (go_at_call 37; refine HDC.out.mono ?_; rintro e w1 ⟨rfl, hb1⟩; have z0 := blk_froz (i := 0) ((hb1.block w.heap.size (by simp)).trans (blk_new _ _ _)); have z1 := blk_froz (i := 1) ((hb1.block w.heap.size (by simp)).trans (blk_new _ _ _)); have z2 := blk_froz (i := 2) ((hb1.block w.heap.size (by simp)).trans (blk_new _ _ _)); have z3 := blk_froz (i := 3) ((hb1.block w.heap.size (by simp)).trans (blk_new _ _ _)); have y0 : w1.cell? ⟨w.heap.size, 0, none⟩ = some (.int .i64 0) := cell_of_block (i := 0) ((hb1.block w.heap.size (by simp)).trans (blk_new _ _ _)) rfl; have y1 : w1.cell? ⟨w.heap.size, 1, none⟩ = some (.int .i64 0) := cell_of_block (i := 1) ((hb1.block w.heap.size (by simp)).trans (blk_new _ _ _)) rfl; have y2 : w1.cell? ⟨w.heap.size, 2, none⟩ = some (.int .i64 0) := cell_of_block (i := 2) ((hb1.block w.heap.size (by simp)).trans (blk_new _ _ _)) rfl; have y3 : w1.cell? ⟨w.heap.size, 3, none⟩ = some (.int .i64 0) := cell_of_block (i := 3) ((hb1.block w.heap.size (by simp)).trans (blk_new _ _ _)) rfl; have hw1 : w.heap.size < w1.heap.size := (by have := hb1.size; simp at this; omega); have HB1 := Lib.hid (HB0.out.trans (hb1.mono (by simp))); clear hb1) | fail)
      refine bodyPost_ret (v := .tuple #[.agg #[.int .i64 0, .int .i64 0, .int .i64 0, .int .i64 0], .bool false]) (by simp [results, Tryd.results27, go_sem, World.cell?_alloc_lt, hw1, y0, y1, y2, y3]) rfl ⟨rfl, (four HB1.out (Nat.le_refl _) _ _ _ _).alloc (by simp; omega) _⟩
  · have hla : decide (a + 1 = len) = true := by simp; omega
    rw [hla] at HAL
    have HNO := Lib.hid (insE_no (told_lone (bs := bs) hl))
    rw [HNO.out]
    clear HNO ha hD hR hla
    go_enter Tryd.func27, Tryd.ntmps27
    go_wp2_with (first | (go_at_call 30; refine HAL.out.mono ?_; rintro e w1 ⟨rfl, rfl⟩) | fail)
    refine bodyPost_ret (v := .tuple #[.agg #[.int .i64 0, .int .i64 0, .int .i64 0, .int .i64 0], .bool false]) (by simp [results, Tryd.results27, go_sem]) rfl ⟨rfl, HB0.out⟩

theorem hw_bd {bs : Nat → Int} (h : IsByte bs) (k : Nat) : 0 ≤ halfW bs k ∧ halfW bs k ≤ 65535 := by
  have h1 := h (2 * k)
  have h2 := h (2 * k + 1)
  unfold halfW; omega

/-- The line of what is no instruction. -/
theorem data_any {w : World} {ad : Option Addr} {len cap : Nat} {bs : Nat → Int} (hD : DL w) (hR : BR w ad len bs) (k : Nat) (a : Int) (ha : a = 2 * k) (h : 2 * k < len) :
    Calls Tryd.prog 16 #[.slice ad len cap, .int .i64 a] w fun e w' => e = .returned (.string ⟨(if 2 * k + 1 < len then [46, 119, 111, 114, 100, 32] ++ Lib.itoa (halfW bs k) else [46, 98, 121, 116, 101, 32] ++ Lib.itoa (bs (2 * k))).toArray⟩) ∧ Below w.heap.size w w' := by
  have hf := hR.few
  have HAL := Lib.hid (alone_any ad len cap a w hf)
  by_cases hl : 2 * k + 1 < len
  · have hla : decide (a + 1 = len) = false := by simp; omega
    rw [hla] at HAL
    rw [if_pos hl]
    have HG := Lib.hid (getw_any (cap := cap) hR k a ha hl)
    have hb := hw_bd hR.byt k
    have HIT := Lib.hid (itoa_any (halfW bs k) (by omega) (by omega) w hD)
    have hl := itoa_few (halfW bs k) (by omega) (by omega)
    have HC := Lib.hid (bcat [46, 119, 111, 114, 100, 32] (Lib.itoa (halfW bs k)))
    generalize halfW bs k = x at *
    generalize Lib.itoa x = l at *
    clear ha hla hD hR
    go_enter Tryd.func16, Tryd.ntmps16
    go_wp2_with (first | (go_at_call 30; refine HAL.out.mono ?_; rintro e w1 ⟨rfl, rfl⟩) | (go_at_call 31; refine HG.out.mono ?_; rintro e w1 ⟨rfl, rfl⟩) | (go_at_call 18; refine HIT.out.mono ?_; rintro e w1 ⟨rfl, hb1⟩; have HB1 := Lib.hid hb1; clear hb1) | fail)
    go_ret
    exact ⟨congrArg (fun x => Ending.returned (Value.string x)) HC.out, HB1.out⟩
  · have hla : decide (a + 1 = len) = true := by simp; omega
    rw [hla] at HAL
    rw [if_neg hl]
    have HG := Lib.hid (getb_any (cap := cap) hR k a ha h)
    have hb := hR.byt (2 * k)
    have HIT := Lib.hid (itoa_any (bs (2 * k)) (by omega) (by omega) w hD)
    have hl := itoa_few (bs (2 * k)) (by omega) (by omega)
    have HC := Lib.hid (bcat [46, 98, 121, 116, 101, 32] (Lib.itoa (bs (2 * k))))
    generalize bs (2 * k) = x at *
    generalize Lib.itoa x = l at *
    clear ha hla hD hR
    go_enter Tryd.func16, Tryd.ntmps16
    go_wp2_with (first | (go_at_call 30; refine HAL.out.mono ?_; rintro e w1 ⟨rfl, rfl⟩) | (go_at_call 31; refine HG.out.mono ?_; rintro e w1 ⟨rfl, rfl⟩) | (go_at_call 18; refine HIT.out.mono ?_; rintro e w1 ⟨rfl, hb1⟩; have HB1 := Lib.hid hb1; clear hb1) | fail)
    go_ret
    exact ⟨congrArg (fun x => Ending.returned (Value.string x)) HC.out, HB1.out⟩

end Go.Proofs.YtgadpimknobljaaDoor
