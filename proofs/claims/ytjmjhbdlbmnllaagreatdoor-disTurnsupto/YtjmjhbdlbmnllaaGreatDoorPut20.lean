/- The text of bytes; the contracts of alone, instruction, data. The contract of each: what is done with half word by half word. The contracts of goals and of what it does with each half word. The contracts of Text and of what it does with each half word. The contract of Text. -/
import Derived.Test.YtjmjhbdlbmnllaaGreatDoorPut19
import Derived.Test.YtjmjhbdlbmnllaaGreatDoorPut3
namespace Go.Proofs.YtjmjhbdlbmnllaaGreatDoor.Di
open Go.RowKit Isa

/-- Half word k. -/
def halfW (bs : Nat → Int) (k : Nat) : Int := bs (2 * k) * 256 + bs (2 * k + 1)
/-- Where it leads. -/
def goalOf (bs : Nat → Int) (k : Nat) : Int := toI (dV (halfW bs k) 0) (dV (halfW bs k) 3) (2 * k)
/-- Whether half word k is told as an instruction. -/
def toldB (bs : Nat → Int) (len k : Nat) : Bool :=
  decide (2 * k + 1 < len) && decide (decE (halfW bs k) = 0) && !(toB (dV (halfW bs k) 0) && (decide (goalOf bs k < 0) || decide ((len : Int) ≤ goalOf bs k)))
/-- A field of the instruction that is told there. -/
def tV (bs : Nat → Int) (len k i : Nat) : Int := if toldB bs len k = true then dV (halfW bs k) i else 0
def leadB (bs : Nat → Int) (len k : Nat) : Bool := toldB bs len k && toB (dV (halfW bs k) 0)
/-- The line of half word k. -/
def rowL (bs : Nat → Int) (len k : Nat) : List UInt8 :=
  if toldB bs len k = true then lineL (dV (halfW bs k) 0) (dV (halfW bs k) 1) (dV (halfW bs k) 2) (dV (halfW bs k) 3) (2 * k)
  else if 2 * k + 1 < len then [46, 119, 111, 114, 100, 32] ++ Lib.itoa (halfW bs k) else [46, 98, 121, 116, 101, 32] ++ Lib.itoa (bs (2 * k))
/-- Does one of the first n lead to place 2 k? -/
def ledB (bs : Nat → Int) (len n k : Nat) : Bool := (List.range n).any fun j => leadB bs len j && decide (goalOf bs j = 2 * k)

/-- Bytes that are read. -/
structure BR (w : World) (ad : Option Addr) (len : Nat) (bs : Nat → Int) : Prop where
  byt : IsByte bs
  few : len ≤ 1048576
  row : 0 < len → ∃ b off, ad = some ⟨b, off, none⟩ ∧ b < w.heap.size ∧ ∀ i, i < len → w.cell? ⟨b, off + i, none⟩ = some (.int .u8 (bs i))
theorem BR.next {w w' : World} {ad : Option Addr} {len : Nat} {bs : Nat → Int} (h : BR w ad len bs) (hb : Below w.heap.size w w') : BR w' ad len bs :=
  ⟨h.byt, h.few, fun h0 => by
    obtain ⟨b, off, e, hl, hc⟩ := h.row h0
    exact ⟨b, off, e, Nat.lt_of_lt_of_le hl hb.size, fun i hi => (hb.cell (p := ⟨b, off + i, none⟩) hl).trans (hc i hi)⟩⟩

theorem get_one (bs : Nat → Int) (len k : Nat) (h : 2 * k < len) : getTo bs len (2 * k : Nat) 1 = bs (2 * k) := by
  simp only [getTo, byteAt]
  rw [if_pos (by omega)]
  have e : ((2 * k : Nat) + (0 : Nat) : Int).toNat = 2 * k := by omega
  rw [e]; omega
theorem get_two (bs : Nat → Int) (len k : Nat) (h : 2 * k + 1 < len) : getTo bs len (2 * k : Nat) 2 = halfW bs k := by
  simp only [getTo, byteAt]
  rw [if_pos (by omega), if_pos (by omega)]
  have e : ((2 * k : Nat) + (0 : Nat) : Int).toNat = 2 * k := by omega
  have e' : ((2 * k : Nat) + (1 : Nat) : Int).toNat = 2 * k + 1 := by omega
  rw [e, e', halfW]; omega

theorem getw_any {w : World} {ad : Option Addr} {len cap : Nat} {bs : Nat → Int} (hR : BR w ad len bs) (k : Nat) (a : Int) (ha : a = 2 * k) (h : 2 * k + 1 < len) :
    Calls Tryz.prog 28 #[.slice ad len cap, .int .i64 a, .int .i64 2] w fun e w' => e = .returned (.int .i64 (halfW bs k)) ∧ w' = w := by
  obtain rfl : a = (2 * k : Nat) := by omega
  have hf := hR.few
  refine (get_any ad len cap bs (2 * k : Nat) 2 w hR.byt (by unfold maxLen; omega) (fun h0 => ?_) (by omega) (by omega) (by omega) (by omega)).mono ?_
  · obtain ⟨b, off, e, _, hc⟩ := hR.row h0
    exact ⟨b, off, e, hc⟩
  · rintro e w' ⟨rfl, rfl⟩
    exact ⟨by rw [← get_two bs len k h]; rfl, rfl⟩
theorem getb_any {w : World} {ad : Option Addr} {len cap : Nat} {bs : Nat → Int} (hR : BR w ad len bs) (k : Nat) (a : Int) (ha : a = 2 * k) (h : 2 * k < len) :
    Calls Tryz.prog 28 #[.slice ad len cap, .int .i64 a, .int .i64 1] w fun e w' => e = .returned (.int .i64 (bs (2 * k))) ∧ w' = w := by
  obtain rfl : a = (2 * k : Nat) := by omega
  have hf := hR.few
  refine (get_any ad len cap bs (2 * k : Nat) 1 w hR.byt (by unfold maxLen; omega) (fun h0 => ?_) (by omega) (by omega) (by omega) (by omega)).mono ?_
  · obtain ⟨b, off, e, _, hc⟩ := hR.row h0
    exact ⟨b, off, e, hc⟩
  · rintro e w' ⟨rfl, rfl⟩
    exact ⟨by rw [← get_one bs len k h]; rfl, rfl⟩

theorem alone_any (ad : Option Addr) (len cap : Nat) (a : Int) (w : World) (h1 : len ≤ 1048576) :
    Calls Tryz.prog 26 #[.slice ad len cap, .int .i64 a] w fun e w' => e = .returned (.bool (decide (a + 1 = len))) ∧ w' = w := by
  have hx : (a == (len : Int) - 1) = decide (a + 1 = len) := by
    by_cases h : a + 1 = len
    · simp [h]; omega
    · simp [h]; omega
  go_enter Tryz.func26, Tryz.ntmps26
  go_wp2
  go_ret
  exact ⟨by rw [← hx]; rfl, rfl⟩

theorem told_lone {bs : Nat → Int} {len k : Nat} (h : ¬ 2 * k + 1 < len) : toldB bs len k = false := by
  unfold toldB; simp [h]
theorem told_bad {bs : Nat → Int} {len k : Nat} (h : decE (halfW bs k) ≠ 0) : toldB bs len k = false := by
  unfold toldB; simp [h]
theorem told_is {bs : Nat → Int} {len k : Nat} (h1 : 2 * k + 1 < len) (h2 : decE (halfW bs k) = 0) : toldB bs len k = !(toB (dV (halfW bs k) 0) && (decide (goalOf bs k < 0) || decide ((len : Int) ≤ goalOf bs k))) := by
  unfold toldB; simp [h1, h2]
/-- What instruction answers. -/
def insE (bs : Nat → Int) (len k : Nat) : Ending := .returned (.tuple #[.agg #[.int .i64 (tV bs len k 0), .int .i64 (tV bs len k 1), .int .i64 (tV bs len k 2), .int .i64 (tV bs len k 3)], .bool (toldB bs len k)])
theorem insE_no {bs : Nat → Int} {len k : Nat} (h : toldB bs len k = false) : insE bs len k = .returned (.tuple #[.agg #[.int .i64 0, .int .i64 0, .int .i64 0, .int .i64 0], .bool false]) := by
  unfold insE tV; simp [h]
theorem insE_yes {bs : Nat → Int} {len k : Nat} (h : toldB bs len k = true) : insE bs len k = .returned (.tuple #[.agg #[.int .i64 (dV (halfW bs k) 0), .int .i64 (dV (halfW bs k) 1), .int .i64 (dV (halfW bs k) 2), .int .i64 (dV (halfW bs k) 3)], .bool true]) := by
  unfold insE tV; simp [h]

theorem blk_froz {w : World} {b i : Nat} {c : Array Value} {t : TypeId} (h : w.heap[b]? = some (.cells c t (0, 0))) : w.frozen? ⟨b, i, none⟩ = false := by
  unfold World.frozen?
  simp only [h]
  simp
theorem blk_new (w : World) (c : Array Value) (t : TypeId) : (w.alloc (.cells c t)).heap[w.heap.size]? = some (.cells c t (0, 0)) := by
  unfold World.alloc
  simp only [Array.getElem?_push_size]
theorem ins_step {w w1 W2 : World} {z d : Array Value} (h1 : Below (w.alloc (.cells z 39)).heap.size (w.alloc (.cells z 39)) w1) (h2 : Below (w1.alloc (.cells d 39)).heap.size (w1.alloc (.cells d 39)) W2) :
    W2.heap[w.heap.size]? = some (.cells z 39 (0, 0)) ∧ W2.heap[w1.heap.size]? = some (.cells d 39 (0, 0)) ∧ w.heap.size < w1.heap.size ∧ Below w.heap.size w W2 := by
  have e1 := h1.size
  simp at e1
  have h1' : Below w.heap.size w w1 := (oalloc w _).trans (h1.mono (by simp))
  refine ⟨?_, ?_, by omega, (h1'.trans ((oalloc w1 _).mono (by omega))).trans (h2.mono (by simp; omega))⟩
  · rw [h2.block _ (by simp; omega), Below.heap_alloc w1 _ _ (by omega), h1.block _ (by simp)]
    exact blk_new _ _ _
  · rw [h2.block _ (by simp)]
    exact blk_new _ _ _
theorem four {w W : World} {B : Nat} (h : Below B w W) {b : Nat} (hb : B ≤ b) (x0 x1 x2 x3 : Value) : Below B w ((((W.setCell ⟨b, 0, none⟩ x0).setCell ⟨b, 1, none⟩ x1).setCell ⟨b, 2, none⟩ x2).setCell ⟨b, 3, none⟩ x3) :=
  (((h.setCell hb _).setCell hb _).setCell hb _).setCell hb _

set_option maxRecDepth 100000 in
set_option maxHeartbeats 4000000 in
theorem ins_any {w : World} {ad : Option Addr} {len cap : Nat} {bs : Nat → Int} (hD : DL w) (hR : BR w ad len bs) (k : Nat) (a : Int) (ha : a = 2 * k) (h : 2 * k < len) :
    Calls Tryz.prog 23 #[.slice ad len cap, .int .i64 a] w fun e w' => e = insE bs len k ∧ Below w.heap.size w w' := by
  have hf := hR.few
  have HB0 := Lib.hid (oalloc w (.cells #[.int .i64 0, .int .i64 0, .int .i64 0, .int .i64 0] 39))
  have HAL := Lib.hid (alone_any ad len cap a (w.alloc (.cells #[.int .i64 0, .int .i64 0, .int .i64 0, .int .i64 0] 39)) hf)
  by_cases hl : 2 * k + 1 < len
  · have hla : decide (a + 1 = len) = false := by simp; omega
    rw [hla] at HAL
    have HG := Lib.hid (getw_any (cap := cap) (hR.next HB0.out) k a ha hl)
    have HDC := Lib.hid (decode_any (halfW bs k) (w.alloc (.cells #[.int .i64 0, .int .i64 0, .int .i64 0, .int .i64 0] 39)) (hD.next HB0.out).laid)
    have HA := Lib.hid ha
    obtain ⟨hdv, b1, b2, b3, b4, b5, b6⟩ := dV_all (halfW bs k)
    rw [hdv] at HDC
    by_cases hE : decE (halfW bs k) = 0
    · rw [hE] at HDC
      have HTO : Hid (∀ W, Below w.heap.size w W → Calls Tryz.prog 8 #[.agg #[.int .i64 (dV (halfW bs k) 0), .int .i64 (dV (halfW bs k) 1), .int .i64 (dV (halfW bs k) 2), .int .i64 (dV (halfW bs k) 3)], .int .i64 a] W fun e w' => e = .returned (.tuple #[.int .i64 (goalOf bs k), .bool (toB (dV (halfW bs k) 0))]) ∧ Below W.heap.size W w') := fun W hb => by
        have := to_any (dV (halfW bs k) 0) (dV (halfW bs k) 1) (dV (halfW bs k) 2) (dV (halfW bs k) 3) a W (hD.next hb).laid (by omega) (by omega) b5 b6
        rw [ha] at this ⊢
        exact this
      have HIS := Lib.hid (told_is (bs := bs) hl hE)
      have HY := Lib.hid (insE_yes (bs := bs) (len := len) (k := k))
      have HNO := Lib.hid (insE_no (bs := bs) (len := len) (k := k))
      generalize insE bs len k = E at *
      generalize toldB bs len k = td at *
      generalize goalOf bs k = gl at *
      generalize halfW bs k = x at *
      clear ha hdv b1 b2 b3 b4 b5 b6 hE hla hD hR
      generalize toB (dV x 0) = tb at *
      generalize dV x 0 = d0 at *
      generalize dV x 1 = d1 at *
      generalize dV x 2 = d2 at *
      generalize dV x 3 = d3 at *
      have hsplit : (tb = false) ∨ (tb = true ∧ gl < 0) ∨ (tb = true ∧ ¬ gl < 0 ∧ (len : Int) ≤ gl) ∨ (tb = true ∧ ¬ gl < 0 ∧ ¬ (len : Int) ≤ gl) := by
        cases tb
        · exact Or.inl rfl
        · by_cases h1 : gl < 0
          · exact Or.inr (Or.inl ⟨rfl, h1⟩)
          · by_cases h2 : (len : Int) ≤ gl
            · exact Or.inr (Or.inr (Or.inl ⟨rfl, h1, h2⟩))
            · exact Or.inr (Or.inr (Or.inr ⟨rfl, h1, h2⟩))
      rcases hsplit with rfl | ⟨rfl, c1⟩ | ⟨rfl, c1, c2⟩ | ⟨rfl, c1, c2⟩
      · skip
        rw [HY.out (by rw [HIS.out]; simp )]
        clear HY HNO HIS
        go_enter Tryz.func23, Tryz.ntmps23
        go_wp2_with (first | (go_at_call 26; refine HAL.out.mono ?_; rintro e w1 ⟨rfl, rfl⟩) | (go_at_call 28; refine HG.out.mono ?_; rintro e w1 ⟨rfl, rfl⟩) | (go_at_call 42; refine HDC.out.mono ?_; rintro e w1 ⟨rfl, hb1⟩; have HB1 := Lib.hid hb1; clear hb1) | fail)
        refine (HTO.out _ ((HB0.out.trans (HB1.out.mono (by simp))).trans ((oalloc w1 _).mono (by have := HB1.out.size; simp at this; omega)))).mono ?_
        rintro e W2 ⟨rfl, hb2⟩
        obtain ⟨k0, k1, hlt, hbW⟩ := ins_step HB1.out hb2
        have HBW := Lib.hid hbW
        have x0 := cell_of_block (i := 0) k1 rfl
        have x1 := cell_of_block (i := 1) k1 rfl
        have x2 := cell_of_block (i := 2) k1 rfl
        have x3 := cell_of_block (i := 3) k1 rfl
        have y0 := cell_of_block (i := 0) k0 rfl
        have y1 := cell_of_block (i := 1) k0 rfl
        have y2 := cell_of_block (i := 2) k0 rfl
        have y3 := cell_of_block (i := 3) k0 rfl
        have z0 := blk_froz (i := 0) k0
        have z1 := blk_froz (i := 1) k0
        have z2 := blk_froz (i := 2) k0
        have z3 := blk_froz (i := 3) k0
        have hsW : w.heap.size < W2.heap.size := (Array.getElem?_eq_some_iff.1 k0).1
        clear hbW hb2 k0 k1
        go_wp2
        refine bodyPost_ret (v := .tuple #[.agg #[.int .i64 d0, .int .i64 d1, .int .i64 d2, .int .i64 d3], .bool true]) (by simp [results, Tryz.results23, go_sem, y0, y1, y2, y3]) rfl ⟨rfl, four HBW.out (Nat.le_refl _) _ _ _ _⟩
      · skip
        rw [HNO.out (by rw [HIS.out]; simp [c1])]
        clear HY HNO HIS
        go_enter Tryz.func23, Tryz.ntmps23
        go_wp2_with (first | (go_at_call 26; refine HAL.out.mono ?_; rintro e w1 ⟨rfl, rfl⟩) | (go_at_call 28; refine HG.out.mono ?_; rintro e w1 ⟨rfl, rfl⟩) | (go_at_call 42; refine HDC.out.mono ?_; rintro e w1 ⟨rfl, hb1⟩; have HB1 := Lib.hid hb1; clear hb1) | fail)
        refine (HTO.out _ ((HB0.out.trans (HB1.out.mono (by simp))).trans ((oalloc w1 _).mono (by have := HB1.out.size; simp at this; omega)))).mono ?_
        rintro e W2 ⟨rfl, hb2⟩
        obtain ⟨k0, k1, hlt, hbW⟩ := ins_step HB1.out hb2
        have HBW := Lib.hid hbW
        have x0 := cell_of_block (i := 0) k1 rfl
        have x1 := cell_of_block (i := 1) k1 rfl
        have x2 := cell_of_block (i := 2) k1 rfl
        have x3 := cell_of_block (i := 3) k1 rfl
        have y0 := cell_of_block (i := 0) k0 rfl
        have y1 := cell_of_block (i := 1) k0 rfl
        have y2 := cell_of_block (i := 2) k0 rfl
        have y3 := cell_of_block (i := 3) k0 rfl
        have z0 := blk_froz (i := 0) k0
        have z1 := blk_froz (i := 1) k0
        have z2 := blk_froz (i := 2) k0
        have z3 := blk_froz (i := 3) k0
        have hsW : w.heap.size < W2.heap.size := (Array.getElem?_eq_some_iff.1 k0).1
        clear hbW hb2 k0 k1
        go_wp2
        refine bodyPost_ret (v := .tuple #[.agg #[.int .i64 0, .int .i64 0, .int .i64 0, .int .i64 0], .bool false]) (by simp [results, Tryz.results23, go_sem, y0, y1, y2, y3]) rfl ⟨rfl, four HBW.out (Nat.le_refl _) _ _ _ _⟩
      · skip
        rw [HNO.out (by rw [HIS.out]; simp [c2])]
        clear HY HNO HIS
        go_enter Tryz.func23, Tryz.ntmps23
        go_wp2_with (first | (go_at_call 26; refine HAL.out.mono ?_; rintro e w1 ⟨rfl, rfl⟩) | (go_at_call 28; refine HG.out.mono ?_; rintro e w1 ⟨rfl, rfl⟩) | (go_at_call 42; refine HDC.out.mono ?_; rintro e w1 ⟨rfl, hb1⟩; have HB1 := Lib.hid hb1; clear hb1) | fail)
        refine (HTO.out _ ((HB0.out.trans (HB1.out.mono (by simp))).trans ((oalloc w1 _).mono (by have := HB1.out.size; simp at this; omega)))).mono ?_
        rintro e W2 ⟨rfl, hb2⟩
        obtain ⟨k0, k1, hlt, hbW⟩ := ins_step HB1.out hb2
        have HBW := Lib.hid hbW
        have x0 := cell_of_block (i := 0) k1 rfl
        have x1 := cell_of_block (i := 1) k1 rfl
        have x2 := cell_of_block (i := 2) k1 rfl
        have x3 := cell_of_block (i := 3) k1 rfl
        have y0 := cell_of_block (i := 0) k0 rfl
        have y1 := cell_of_block (i := 1) k0 rfl
        have y2 := cell_of_block (i := 2) k0 rfl
        have y3 := cell_of_block (i := 3) k0 rfl
        have z0 := blk_froz (i := 0) k0
        have z1 := blk_froz (i := 1) k0
        have z2 := blk_froz (i := 2) k0
        have z3 := blk_froz (i := 3) k0
        have hsW : w.heap.size < W2.heap.size := (Array.getElem?_eq_some_iff.1 k0).1
        clear hbW hb2 k0 k1
        go_wp2
        refine bodyPost_ret (v := .tuple #[.agg #[.int .i64 0, .int .i64 0, .int .i64 0, .int .i64 0], .bool false]) (by simp [results, Tryz.results23, go_sem, y0, y1, y2, y3]) rfl ⟨rfl, four HBW.out (Nat.le_refl _) _ _ _ _⟩
      · skip
        rw [HY.out (by rw [HIS.out]; simp [c1, c2])]
        clear HY HNO HIS
        go_enter Tryz.func23, Tryz.ntmps23
        go_wp2_with (first | (go_at_call 26; refine HAL.out.mono ?_; rintro e w1 ⟨rfl, rfl⟩) | (go_at_call 28; refine HG.out.mono ?_; rintro e w1 ⟨rfl, rfl⟩) | (go_at_call 42; refine HDC.out.mono ?_; rintro e w1 ⟨rfl, hb1⟩; have HB1 := Lib.hid hb1; clear hb1) | fail)
        refine (HTO.out _ ((HB0.out.trans (HB1.out.mono (by simp))).trans ((oalloc w1 _).mono (by have := HB1.out.size; simp at this; omega)))).mono ?_
        rintro e W2 ⟨rfl, hb2⟩
        obtain ⟨k0, k1, hlt, hbW⟩ := ins_step HB1.out hb2
        have HBW := Lib.hid hbW
        have x0 := cell_of_block (i := 0) k1 rfl
        have x1 := cell_of_block (i := 1) k1 rfl
        have x2 := cell_of_block (i := 2) k1 rfl
        have x3 := cell_of_block (i := 3) k1 rfl
        have y0 := cell_of_block (i := 0) k0 rfl
        have y1 := cell_of_block (i := 1) k0 rfl
        have y2 := cell_of_block (i := 2) k0 rfl
        have y3 := cell_of_block (i := 3) k0 rfl
        have z0 := blk_froz (i := 0) k0
        have z1 := blk_froz (i := 1) k0
        have z2 := blk_froz (i := 2) k0
        have z3 := blk_froz (i := 3) k0
        have hsW : w.heap.size < W2.heap.size := (Array.getElem?_eq_some_iff.1 k0).1
        clear hbW hb2 k0 k1
        go_wp2
        refine bodyPost_ret (v := .tuple #[.agg #[.int .i64 d0, .int .i64 d1, .int .i64 d2, .int .i64 d3], .bool true]) (by simp [results, Tryz.results23, go_sem, y0, y1, y2, y3]) rfl ⟨rfl, four HBW.out (Nat.le_refl _) _ _ _ _⟩
    · have HNO := Lib.hid (insE_no (told_bad (len := len) hE))
      have hE' : (decE (halfW bs k) == 0) = false := by simp [hE]
      rw [HNO.out]
      generalize halfW bs k = x at *
      clear ha hdv b1 b2 b3 b4 b5 b6 hla hD hR HNO
      generalize decE x = ee at *
      go_enter Tryz.func23, Tryz.ntmps23
      go_wp2_with (first | (go_at_call 26; refine HAL.out.mono ?_; rintro e w1 ⟨rfl, rfl⟩) | (go_at_call 28; refine HG.out.mono ?_; rintro e w1 ⟨rfl, rfl⟩) | (go_at_call 42; refine HDC.out.mono ?_; rintro e w1 ⟨rfl, hb1⟩; have z0 := blk_froz (i := 0) ((hb1.block w.heap.size (by simp)).trans (blk_new _ _ _)); have z1 := blk_froz (i := 1) ((hb1.block w.heap.size (by simp)).trans (blk_new _ _ _)); have z2 := blk_froz (i := 2) ((hb1.block w.heap.size (by simp)).trans (blk_new _ _ _)); have z3 := blk_froz (i := 3) ((hb1.block w.heap.size (by simp)).trans (blk_new _ _ _)); have y0 : w1.cell? ⟨w.heap.size, 0, none⟩ = some (.int .i64 0) := cell_of_block (i := 0) ((hb1.block w.heap.size (by simp)).trans (blk_new _ _ _)) rfl; have y1 : w1.cell? ⟨w.heap.size, 1, none⟩ = some (.int .i64 0) := cell_of_block (i := 1) ((hb1.block w.heap.size (by simp)).trans (blk_new _ _ _)) rfl; have y2 : w1.cell? ⟨w.heap.size, 2, none⟩ = some (.int .i64 0) := cell_of_block (i := 2) ((hb1.block w.heap.size (by simp)).trans (blk_new _ _ _)) rfl; have y3 : w1.cell? ⟨w.heap.size, 3, none⟩ = some (.int .i64 0) := cell_of_block (i := 3) ((hb1.block w.heap.size (by simp)).trans (blk_new _ _ _)) rfl; have hw1 : w.heap.size < w1.heap.size := (by have := hb1.size; simp at this; omega); have HB1 := Lib.hid (HB0.out.trans (hb1.mono (by simp))); clear hb1) | fail)
      refine bodyPost_ret (v := .tuple #[.agg #[.int .i64 0, .int .i64 0, .int .i64 0, .int .i64 0], .bool false]) (by simp [results, Tryz.results23, go_sem, World.cell?_alloc_lt, hw1, y0, y1, y2, y3]) rfl ⟨rfl, (four HB1.out (Nat.le_refl _) _ _ _ _).alloc (by simp; omega) _⟩
  · have hla : decide (a + 1 = len) = true := by simp; omega
    rw [hla] at HAL
    have HNO := Lib.hid (insE_no (told_lone (bs := bs) hl))
    rw [HNO.out]
    clear HNO ha hD hR hla
    go_enter Tryz.func23, Tryz.ntmps23
    go_wp2_with (first | (go_at_call 26; refine HAL.out.mono ?_; rintro e w1 ⟨rfl, rfl⟩) | fail)
    refine bodyPost_ret (v := .tuple #[.agg #[.int .i64 0, .int .i64 0, .int .i64 0, .int .i64 0], .bool false]) (by simp [results, Tryz.results23, go_sem]) rfl ⟨rfl, HB0.out⟩

theorem hw_bd {bs : Nat → Int} (h : IsByte bs) (k : Nat) : 0 ≤ halfW bs k ∧ halfW bs k ≤ 65535 := by
  have h1 := h (2 * k)
  have h2 := h (2 * k + 1)
  unfold halfW; omega

/-- The line of what is no instruction. -/
theorem data_any {w : World} {ad : Option Addr} {len cap : Nat} {bs : Nat → Int} (hD : DL w) (hR : BR w ad len bs) (k : Nat) (a : Int) (ha : a = 2 * k) (h : 2 * k < len) :
    Calls Tryz.prog 15 #[.slice ad len cap, .int .i64 a] w fun e w' => e = .returned (.string ⟨(if 2 * k + 1 < len then [46, 119, 111, 114, 100, 32] ++ Lib.itoa (halfW bs k) else [46, 98, 121, 116, 101, 32] ++ Lib.itoa (bs (2 * k))).toArray⟩) ∧ Below w.heap.size w w' := by
  have hf := hR.few
  have HAL := Lib.hid (alone_any ad len cap a w hf)
  by_cases hl : 2 * k + 1 < len
  · have hla : decide (a + 1 = len) = false := by simp; omega
    rw [hla] at HAL
    rw [if_pos hl]
    have HG := Lib.hid (getw_any (cap := cap) hR k a ha hl)
    have hb := hw_bd hR.byt k
    have HIT := Lib.hid (itoa_any (halfW bs k) (by omega) (by omega) w hD)
    have hl := itoa_few (halfW bs k) (by omega) (by omega)
    have HC := Lib.hid (bcat [46, 119, 111, 114, 100, 32] (Lib.itoa (halfW bs k)))
    generalize halfW bs k = x at *
    generalize Lib.itoa x = l at *
    clear ha hla hD hR
    go_enter Tryz.func15, Tryz.ntmps15
    go_wp2_with (first | (go_at_call 26; refine HAL.out.mono ?_; rintro e w1 ⟨rfl, rfl⟩) | (go_at_call 28; refine HG.out.mono ?_; rintro e w1 ⟨rfl, rfl⟩) | (go_at_call 27; refine HIT.out.mono ?_; rintro e w1 ⟨rfl, hb1⟩; have HB1 := Lib.hid hb1; clear hb1) | fail)
    go_ret
    exact ⟨congrArg (fun x => Ending.returned (Value.string x)) HC.out, HB1.out⟩
  · have hla : decide (a + 1 = len) = true := by simp; omega
    rw [hla] at HAL
    rw [if_neg hl]
    have HG := Lib.hid (getb_any (cap := cap) hR k a ha h)
    have hb := hR.byt (2 * k)
    have HIT := Lib.hid (itoa_any (bs (2 * k)) (by omega) (by omega) w hD)
    have hl := itoa_few (bs (2 * k)) (by omega) (by omega)
    have HC := Lib.hid (bcat [46, 98, 121, 116, 101, 32] (Lib.itoa (bs (2 * k))))
    generalize bs (2 * k) = x at *
    generalize Lib.itoa x = l at *
    clear ha hla hD hR
    go_enter Tryz.func15, Tryz.ntmps15
    go_wp2_with (first | (go_at_call 26; refine HAL.out.mono ?_; rintro e w1 ⟨rfl, rfl⟩) | (go_at_call 28; refine HG.out.mono ?_; rintro e w1 ⟨rfl, rfl⟩) | (go_at_call 27; refine HIT.out.mono ?_; rintro e w1 ⟨rfl, hb1⟩; have HB1 := Lib.hid hb1; clear hb1) | fail)
    go_ret
    exact ⟨congrArg (fun x => Ending.returned (Value.string x)) HC.out, HB1.out⟩

end Go.Proofs.YtjmjhbdlbmnllaaGreatDoor.Di

namespace Go.Proofs.YtjmjhbdlbmnllaaGreatDoor.Di
open Go.RowKit Isa

set_option maxRecDepth 100000 in
set_option maxHeartbeats 4000000 in
theorem each_any {w0 w : World} {ad : Option Addr} {len cap : Nat} {bs : Nat → Int} (hD : DL w0) (hR : BR w0 ad len bs) (f : FuncId) (caps : Array Value) (hent : ∀ args w, (callFunc f args).run Tryz.prog w = .ok (.enter f args) w)
    (I : Nat → World → Prop) (hB : ∀ k W, I k W → Below w0.heap.size w0 W) (hG : ∀ k W W', I k W → Below W.heap.size W W' → I k W')
    (hstep : ∀ (k : Nat) (a : Int) (W : World), a = 2 * k → 2 * k < len → I k W → Calls Tryz.prog f (#[.int .i64 a, .agg #[.int .i64 (tV bs len k 0), .int .i64 (tV bs len k 1), .int .i64 (tV bs len k 2), .int .i64 (tV bs len k 3)], .bool (toldB bs len k)] ++ caps) W fun e W' => e = .returned (.tuple #[]) ∧ I (k + 1) W')
    (hI : I 0 w) :
    Calls Tryz.prog 11 #[.slice ad len cap, .func (.func f) #[] caps] w fun e W' => e = .returned (.tuple #[]) ∧ I ((len + 1) / 2) W' := by
  have hf := hR.few
  have HBI := Lib.hid hB
  have HGI := Lib.hid hG
  have HST := Lib.hid hstep
  have HI0 := Lib.hid hI
  have HINS : Hid (∀ W, Below w0.heap.size w0 W → ∀ (k : Nat) (a : Int), a = 2 * k → 2 * k < len → Calls Tryz.prog 23 #[.slice ad len cap, .int .i64 a] W fun e w' => e = insE bs len k ∧ Below W.heap.size W w') := fun W hb k a ha h => ins_any (hD.next hb) (hR.next hb) k a ha h
  clear hB hG hstep hI hD hR
  go_enter Tryz.func11, Tryz.ntmps11
  go_wp2_with fail
  go_loopw [4] (fun i W => ∃ (k : Nat) (a : Int), i = .int .i64 a ∧ Hid (a = 2 * k ∧ 2 * k ≤ len + 1) ∧ (0 ≤ a ∧ a ≤ 1048578) ∧ Hid (I k W)) (fun i _ => len + 2 - (intOf i).toNat)
  case atStart => exact ⟨0, 0, rfl, ⟨rfl, by omega⟩, ⟨by omega, by omega⟩, HI0⟩
  case round =>
    obtain ⟨k, a, rfl, HA, ⟨ha0, ha1⟩, HI⟩ := hrel
    clear HI0
    by_cases hlt : a < (len : Int)
    · have hk : 2 * k < len := by have := HA.out; omega
      have HC := Lib.hid (HINS.out wr (HBI.out k wr HI.out) k a HA.out.1 hk)
      unfold insE at HC
      have HS := Lib.hid (fun W => HST.out k a W HA.out.1 hk)
      generalize toldB bs len k = td at *
      generalize tV bs len k 0 = d0 at *
      generalize tV bs len k 1 = d1 at *
      generalize tV bs len k 2 = d2 at *
      generalize tV bs len k 3 = d3 at *
      go_wp2_with (first | (go_at_call 23; refine HC.out.mono ?_; rintro e W1 ⟨rfl, hb1⟩; have HB1 := Lib.hid hb1; clear hb1) | fail)
      refine (HS.out _ (HGI.out k _ _ (HGI.out k _ _ HI.out HB1.out) (oalloc _ _))).mono ?_
      rintro e W2 ⟨rfl, hi2⟩
      have HI2 := Lib.hid hi2
      have HM : Hid (len + 2 - (a + 2).toNat < len + 2 - a.toNat) := by have := HA.out; unfold Hid; omega
      clear hi2
      go_wp2
      exact ⟨⟨k + 1, a + 2, by go_num, ⟨by have := HA.out.1; omega, by omega⟩, ⟨by omega, by omega⟩, HI2⟩, by simpa [intOf] using HM.out⟩
    · have hk : k = (len + 1) / 2 := by have := HA.out; omega
      subst hk
      go_wp2
      exact bodyPost_end (v := .tuple #[]) (by simp [results, Tryz.results11, go_sem]) rfl ⟨rfl, HI.out⟩

end Go.Proofs.YtjmjhbdlbmnllaaGreatDoor.Di

namespace Go.Proofs.YtjmjhbdlbmnllaaGreatDoor.Di
open Go.RowKit Isa

theorem info4 : (Tryz.prog.info? 4).map (fun i => (i.zero, i.size, i.bytes)) = some (some (.bool false), 1, 1) := by kernel_rfl

/-- A row of bools. -/
def BRow (W : World) (g n : Nat) (B : Nat → Bool) : Prop := ∃ cs : Array Value, W.heap[g]? = some (.cells cs 4 (0, 0)) ∧ cs.size = n ∧ ∀ i, i < n → cs[i]? = some (.bool (B i))
theorem BRow.new (w : World) (n : Nat) {B : Nat → Bool} (h : ∀ i, B i = false) : BRow (w.alloc (.cells (madeCells #[.bool false] n) 4)) w.heap.size n B := by
  refine ⟨_, blk_new _ _ _, size_madeCells _ _, fun i hi => ?_⟩
  simp [madeCells, hi, Nat.mod_one, h]
theorem BRow.put {W : World} {g n k : Nat} {B B' : Nat → Bool} (h : BRow W g n B) (hk : k < n) (h1 : B' k = true) (h2 : ∀ i, i ≠ k → B' i = B i) : BRow (W.setCell ⟨g, k, none⟩ (.bool true)) g n B' := by
  obtain ⟨cs, hb, hs, hc⟩ := h
  refine ⟨_, _root_.Go.heap_setCell_same W g k cs 4 _ hb, by simpa using hs, fun i hi => ?_⟩
  by_cases h : k = i
  · subst h
    rw [Array.getElem?_setIfInBounds_self, if_pos (by omega), h1]
  · rw [Array.getElem?_setIfInBounds_ne h, hc i hi, h2 i (Ne.symm h)]
theorem BRow.cell {W : World} {g n : Nat} {B : Nat → Bool} (h : BRow W g n B) {i : Nat} (hi : i < n) : W.cell? ⟨g, i, none⟩ = some (.bool (B i)) ∧ W.frozen? ⟨g, i, none⟩ = false := by
  obtain ⟨cs, hb, hs, hc⟩ := h
  exact ⟨cell_of_block hb (hc i hi), blk_froz hb⟩
theorem BRow.go {W W' : World} {g n : Nat} {B : Nat → Bool} (h : BRow W g n B) (hb : W'.heap[g]? = W.heap[g]?) : BRow W' g n B := by
  obtain ⟨cs, h1, h2⟩ := h
  exact ⟨cs, hb.trans h1, h2⟩
theorem BRow.lt {W : World} {g n : Nat} {B : Nat → Bool} (h : BRow W g n B) : g < W.heap.size := by
  obtain ⟨cs, h1, h2⟩ := h
  exact (Array.getElem?_eq_some_iff.1 h1).1
theorem BRow.congr {W : World} {g n : Nat} {B B' : Nat → Bool} (h : BRow W g n B) (he : ∀ i, B' i = B i) : BRow W g n B' := by
  obtain rfl : B' = B := funext he
  exact h

theorem ledB_zero (bs : Nat → Int) (len k : Nat) : ledB bs len 0 k = false := rfl
theorem ledB_succ (bs : Nat → Int) (len n k : Nat) : ledB bs len (n + 1) k = (ledB bs len n k || (leadB bs len n && decide (goalOf bs n = 2 * k))) := by
  unfold ledB
  rw [List.range_succ, List.any_append]
  simp
theorem goal_even (bs : Nat → Int) (k : Nat) : goalOf bs k % 2 = 0 := by
  unfold goalOf toI
  split
  · omega
  · split <;> omega
theorem told_goal {bs : Nat → Int} {len k : Nat} (h : toldB bs len k = true) (hb : toB (dV (halfW bs k) 0) = true) : 0 ≤ goalOf bs k ∧ goalOf bs k < len := by
  unfold toldB at h
  simp [hb] at h
  omega

/-- What goals keeps while half words are gone through: the box of its row at q, the row at g. -/
structure GI (bs : Nat → Int) (len : Nat) (w : World) (g q k : Nat) (W : World) : Prop where
  bel : Below w.heap.size w W
  ge : w.heap.size ≤ g
  box : W.heap[q]? = some (.cells #[.slice (some ⟨g, 0, none⟩) ((len + 1) / 2) ((len + 1) / 2)] 41 (0, 0))
  ne : q ≠ g
  row : BRow W g ((len + 1) / 2) (ledB bs len k)
theorem GI.next {bs : Nat → Int} {len : Nat} {w : World} {g q k : Nat} {W W' : World} (h : GI bs len w g q k W) (hb : Below W.heap.size W W') : GI bs len w g q k W' :=
  ⟨h.bel.trans (hb.mono h.bel.size), h.ge, (hb.block _ (Array.getElem?_eq_some_iff.1 h.box).1).trans h.box, h.ne, h.row.go (hb.block _ h.row.lt)⟩
theorem GI.skip {bs : Nat → Int} {len : Nat} {w : World} {g q k : Nat} {W : World} (h : GI bs len w g q k W) (hl : leadB bs len k = false) : GI bs len w g q (k + 1) W :=
  ⟨h.bel, h.ge, h.box, h.ne, h.row.congr fun i => by rw [ledB_succ, hl]; simp⟩
theorem GI.put {bs : Nat → Int} {len : Nat} {w : World} {g q k p : Nat} {W : World} (h : GI bs len w g q k W) (hl : leadB bs len k = true) (hp : goalOf bs k = 2 * p) (hlt : p < (len + 1) / 2) : GI bs len w g q (k + 1) (W.setCell ⟨g, p, none⟩ (.bool true)) :=
  ⟨h.bel.setCell h.ge _, h.ge, by rw [Below.heap_setCell _ _ _ _ (by exact h.ne)]; exact h.box, h.ne, h.row.put hlt (by rw [ledB_succ, hl, hp]; simp) fun i hi => by
    rw [ledB_succ, hl, hp]
    simp
    omega⟩

set_option maxRecDepth 100000 in
set_option maxHeartbeats 4000000 in
theorem goals1_any {bs : Nat → Int} {len : Nat} {w W : World} {g q k : Nat} (hD : DL w) (hf : len ≤ 1048576) (a : Int) (ha : a = 2 * k) (hk : 2 * k < len) (hI : GI bs len w g q k W) :
    Calls Tryz.prog 22 #[.int .i64 a, .agg #[.int .i64 (tV bs len k 0), .int .i64 (tV bs len k 1), .int .i64 (tV bs len k 2), .int .i64 (tV bs len k 3)], .bool (toldB bs len k), .pointer (some ⟨q, 0, none⟩)] W fun e W' => e = .returned (.tuple #[]) ∧ GI bs len w g q (k + 1) W' := by
  have HI := Lib.hid hI
  have HDL : Hid (∀ W', Below W.heap.size W W' → DL W') := fun W' hb => (hD.next hI.bel).next hb
  obtain ⟨_, _, _, _, _, b5, b6⟩ := dV_all (halfW bs k)
  by_cases htd : toldB bs len k = true
  · have e0 : tV bs len k 0 = dV (halfW bs k) 0 := by unfold tV; rw [if_pos htd]
    have e1 : tV bs len k 1 = dV (halfW bs k) 1 := by unfold tV; rw [if_pos htd]
    have e2 : tV bs len k 2 = dV (halfW bs k) 2 := by unfold tV; rw [if_pos htd]
    have e3 : tV bs len k 3 = dV (halfW bs k) 3 := by unfold tV; rw [if_pos htd]
    have HTO : Hid (∀ W', Below W.heap.size W W' → Calls Tryz.prog 8 #[.agg #[.int .i64 (dV (halfW bs k) 0), .int .i64 (dV (halfW bs k) 1), .int .i64 (dV (halfW bs k) 2), .int .i64 (dV (halfW bs k) 3)], .int .i64 a] W' fun e w' => e = .returned (.tuple #[.int .i64 (goalOf bs k), .bool (toB (dV (halfW bs k) 0))]) ∧ Below W'.heap.size W' w') := fun W' hb => by
      have := to_any (dV (halfW bs k) 0) (dV (halfW bs k) 1) (dV (halfW bs k) 2) (dV (halfW bs k) 3) a W' (HDL.out W' hb).laid (by omega) (by omega) b5 b6
      rw [ha] at this ⊢
      exact this
    have HLB : Hid (leadB bs len k = toB (dV (halfW bs k) 0)) := by unfold Hid leadB; rw [htd]; simp
    rw [htd, e0, e1, e2, e3]
    have HGO := Lib.hid (told_goal htd)
    have HEV := Lib.hid (goal_even bs k)
    have HPUT := Lib.hid (fun (W' : World) (h : GI bs len w g q k W') (p : Nat) => h.put (p := p))
    have HSK := Lib.hid (fun (W' : World) (h : GI bs len w g q k W') => h.skip)
    have HA := Lib.hid ha
    generalize leadB bs len k = lb at *
    generalize goalOf bs k = gl at *
    generalize dV (halfW bs k) 0 = d0 at *
    generalize dV (halfW bs k) 1 = d1 at *
    generalize dV (halfW bs k) 2 = d2 at *
    generalize dV (halfW bs k) 3 = d3 at *
    clear e0 e1 e2 e3 htd ha hI hD b5 b6
    by_cases htb : toB d0 = true
    · rw [htb] at HTO HLB HGO
      obtain ⟨g0, g1⟩ := HGO.out rfl
      obtain ⟨p, hp⟩ : ∃ p : Nat, gl = 2 * p := ⟨(gl / 2).toNat, by have := HEV.out; omega⟩
      have HP := Lib.hid hp
      have hpl : p < (len + 1) / 2 := by omega
      have hq : gl.tdiv 2 = p := by rw [hp]; exact Int.mul_tdiv_cancel_left _ (by omega)
      clear hp HGO HEV
      go_enter Tryz.func22, Tryz.ntmps22
      go_wp2_with (first | (go_at_call 8; refine (HTO.out _ (oalloc _ _)).mono ?_; rintro e W1 ⟨rfl, hb1⟩; have HI1 := Lib.hid ((HI.out.next (oalloc _ _)).next hb1); have c0 := cell_of_block (i := 0) HI1.out.box rfl; have c1 := (HI1.out.row.cell hpl).1; have f1 := (HI1.out.row.cell hpl).2; clear hb1) | fail)
      exact bodyPost_end (v := .tuple #[]) (by simp [results, Tryz.results22, go_sem]) rfl ⟨rfl, HPUT.out _ HI1.out p HLB.out HP.out hpl⟩
    · have htb' : toB d0 = false := by simpa using htb
      rw [htb'] at HTO HLB
      clear htb HGO HEV
      go_enter Tryz.func22, Tryz.ntmps22
      go_wp2_with (first | (go_at_call 8; refine (HTO.out _ (oalloc _ _)).mono ?_; rintro e W1 ⟨rfl, hb1⟩; have HI1 := Lib.hid ((HI.out.next (oalloc _ _)).next hb1); clear hb1) | fail)
      exact bodyPost_end (v := .tuple #[]) (by simp [results, Tryz.results22, go_sem]) rfl ⟨rfl, HSK.out _ HI1.out HLB.out⟩
  · have htd' : toldB bs len k = false := by simpa using htd
    have e : ∀ i, tV bs len k i = 0 := fun i => by unfold tV; rw [if_neg htd]
    have HLB : Hid (leadB bs len k = false) := by unfold Hid leadB; rw [htd']; rfl
    have HTO : Hid (∀ W', Below W.heap.size W W' → Calls Tryz.prog 8 #[.agg #[.int .i64 0, .int .i64 0, .int .i64 0, .int .i64 0], .int .i64 a] W' fun e w' => e = .returned (.tuple #[.int .i64 (toI 0 0 a), .bool (toB 0)]) ∧ Below W'.heap.size W' w') := fun W' hb =>
      to_any 0 0 0 0 a W' (HDL.out W' hb).laid (by omega) (by omega) (by omega) (by omega)
    rw [htd', e, e, e, e]
    have HSK := Lib.hid (fun (W' : World) (h : GI bs len w g q k W') => h.skip)
    clear e htd htd' ha hI hD b5 b6
    generalize leadB bs len k = lb at *
    generalize toI 0 0 a = gl at *
    generalize toB 0 = tb at *
    go_enter Tryz.func22, Tryz.ntmps22
    go_wp2_with (first | (go_at_call 8; refine (HTO.out _ (oalloc _ _)).mono ?_; rintro e W1 ⟨rfl, hb1⟩; have HI1 := Lib.hid ((HI.out.next (oalloc _ _)).next hb1); clear hb1) | fail)
    exact bodyPost_end (v := .tuple #[]) (by simp [results, Tryz.results22, go_sem]) rfl ⟨rfl, HSK.out _ HI1.out HLB.out⟩

set_option maxRecDepth 100000 in
set_option maxHeartbeats 4000000 in
theorem goals_any {w : World} {ad : Option Addr} {len cap : Nat} {bs : Nat → Int} (hD : DL w) (hR : BR w ad len bs) :
    Calls Tryz.prog 10 #[.slice ad len cap] w fun e w' => ∃ g, e = .returned (.slice (some ⟨g, 0, none⟩) ((len + 1) / 2) ((len + 1) / 2)) ∧ w.heap.size ≤ g ∧ Below w.heap.size w w' ∧ BRow w' g ((len + 1) / 2) (ledB bs len ((len + 1) / 2)) := by
  have hf := hR.few
  have hmk := run_make_row' (P := Tryz.prog) 41 4 (.bool false) 1 Tryz.underlying41 info4 rfl .i64 .i64 ((len + 1) / 2) (by omega) (by omega)
  have hq : ((len : Int) + 2 - 1).tdiv 2 = ((len + 1) / 2 : Nat) := by
    rw [Int.tdiv_eq_ediv_of_nonneg (by omega)]; omega
  have HEA := Lib.hid (fun (W : World) (g q : Nat) (hI : GI bs len w g q 0 W) => each_any (cap := cap) (w := W) hD hR 22 #[.pointer (some ⟨q, 0, none⟩)] (by intro args w; rfl) (fun k W => GI bs len w g q k W) (fun _ _ h => h.bel) (fun _ _ _ h hb => h.next hb) (fun k a W ha hk h => goals1_any hD hf a ha hk h) hI)
  clear hD hR
  have HR0 := Lib.hid (BRow.new w ((len + 1) / 2) (ledB_zero bs len))
  have HB0 := Lib.hid (oalloc w (.cells (madeCells #[.bool false] ((len + 1) / 2)) 4))
  have HGI : Hid (∀ W g q, GI bs len w g q 0 W ↔ GI bs len w g q 0 W) := fun _ _ _ => Iff.rfl
  have HMK : Hid (∀ (W : World) (g q : Nat), Below w.heap.size w W → w.heap.size ≤ g → W.heap[q]? = some (.cells #[.slice (some ⟨g, 0, none⟩) ((len + 1) / 2) ((len + 1) / 2)] 41 (0, 0)) → q ≠ g → BRow W g ((len + 1) / 2) (ledB bs len 0) → GI bs len w g q 0 W) := fun W g q h1 h2 h3 h4 h5 => ⟨h1, h2, h3, h4, h5⟩
  have HBX : Hid (∀ (W : World) (g q k : Nat), GI bs len w g q k W → W.heap[q]? = some (.cells #[.slice (some ⟨g, 0, none⟩) ((len + 1) / 2) ((len + 1) / 2)] 41 (0, 0))) := fun _ _ _ _ h => h.box
  have HRW : Hid (∀ (W : World) (g q k : Nat), GI bs len w g q k W → Below w.heap.size w W ∧ BRow W g ((len + 1) / 2) (ledB bs len k)) := fun _ _ _ _ h => ⟨h.bel, h.row⟩
  have hh : (len + 1) / 2 ≤ 1048577 := by omega
  clear HGI
  generalize (len + 1) / 2 = h at *
  have hh0 : wrap64 (h : Int) = h := by unfold wrap64; omega
  go_enter Tryz.func10, Tryz.ntmps10
  go_wp2_with fail
  have hbx : ((w.alloc (.cells (madeCells #[.bool false] h) 4)).alloc (.cells #[.slice (some ⟨w.heap.size, 0, none⟩) h h] 41)).heap[w.heap.size + 1]? = some (.cells #[.slice (some ⟨w.heap.size, 0, none⟩) h h] 41 (0, 0)) := by
    have := blk_new (w.alloc (.cells (madeCells #[.bool false] h) 4)) #[.slice (some ⟨w.heap.size, 0, none⟩) h h] 41
    simpa using this
  refine (HEA.out _ w.heap.size (w.heap.size + 1) (HMK.out _ _ _ (HB0.out.trans ((oalloc _ _).mono (by simp))) (Nat.le_refl _) hbx (by omega) (HR0.out.go ((oalloc _ _).block _ HR0.out.lt)))).mono ?_
  rintro e W ⟨rfl, hg⟩
  have c0 := cell_of_block (i := 0) (HBX.out _ _ _ _ hg) rfl
  have HX := Lib.hid (HRW.out _ _ _ _ hg)
  clear hg hbx hmk
  go_wp2
  go_ret
  exact ⟨w.heap.size, rfl, Nat.le_refl _, HX.out.1, HX.out.2⟩

end Go.Proofs.YtjmjhbdlbmnllaaGreatDoor.Di

namespace Go.Proofs.YtjmjhbdlbmnllaaGreatDoor.Di
open Go.RowKit Isa

/-- The name ahead of half word k. -/
def nameL (bs : Nat → Int) (len k : Nat) : List UInt8 := if ledB bs len ((len + 1) / 2) k = true then placeL (2 * k) ++ [58, 10] else []
/-- The text of the first k half words. -/
def textTo (bs : Nat → Int) (len : Nat) : Nat → List UInt8
  | 0 => []
  | k + 1 => textTo bs len k ++ nameL bs len k ++ (rowL bs len k ++ [10])

theorem nameL_few (bs : Nat → Int) (len k : Nat) : (nameL bs len k).length ≤ 20 := by
  unfold nameL
  split
  · have := placeL_few (2 * k)
    simp; omega
  · simp
theorem lineL_few (op n m imm at' : Int) (hn0 : 0 ≤ n) (hn1 : n ≤ 15) (hm0 : 0 ≤ m) (hm1 : m ≤ 15) (h2 : -10000 ≤ imm) (h3 : imm ≤ 10000) : (lineL op n m imm at').length ≤ 80 := by
  have h4 := name_few op
  have h5 := operL_few (infoShape op) n m imm (toI op imm at') hn0 hn1 hm0 hm1 h2 h3
  unfold lineL
  split
  · omega
  · simp only [List.length_append, List.length_cons, List.length_nil]; omega
theorem rowL_few {bs : Nat → Int} (hb : IsByte bs) (len k : Nat) : (rowL bs len k).length ≤ 80 := by
  obtain ⟨_, b1, b2, b3, b4, b5, b6⟩ := dV_all (halfW bs k)
  have h1 := hw_bd hb k
  have h2 := hb (2 * k)
  have h3 := itoa_few (halfW bs k) (by omega) (by omega)
  have h4 := itoa_few (bs (2 * k)) (by omega) (by omega)
  unfold rowL
  split
  · exact lineL_few _ _ _ _ _ b1 b2 b3 b4 b5 b6
  · split
    · simp only [List.length_append, List.length_cons, List.length_nil]; omega
    · simp only [List.length_append, List.length_cons, List.length_nil]; omega
theorem textTo_few {bs : Nat → Int} (hb : IsByte bs) (len : Nat) : ∀ k, (textTo bs len k).length ≤ 101 * k
  | 0 => by simp [textTo]
  | k + 1 => by
    have h1 := textTo_few hb len k
    have h2 := nameL_few bs len k
    have h3 := rowL_few hb len k
    simp only [textTo, List.length_append, List.length_cons, List.length_nil]
    omega

/-- The world behind a part that writes. -/
structure PrN (B b : Nat) (w w' : World) : Prop where
  bel : Below B w w'
  kept : Lib.OthersKept 5 (some b) w w'
theorem PrN.of_below {B b : Nat} {w w' : World} (hb : Below w.heap.size w w') (hB : B ≤ w.heap.size) : PrN B b w w' :=
  ⟨hb.mono hB, fun k o hk _ _ => by rw [hb.block k (Array.getElem?_eq_some_iff.1 hk).1]; exact hk⟩
theorem PrN.cells {B b : Nat} {w w' : World} (h : PrN B b w w') {k : Nat} {cs : Array Value} {t : TypeId} {fz : Nat × Nat} (hk : w.heap[k]? = some (.cells cs t fz)) (hne : k ≠ b) (ht : t ≠ 5) : w'.heap[k]? = some (.cells cs t fz) :=
  h.kept k _ hk (by simpa using hne) (by intro c f e; injection e with _ e _; exact ht e)
theorem gbelow {w w' : World} {B : Nat} (r : Option Nat) (h : Below B w w') (hB : w.heap.size ≤ B) : w.grownBy w' r :=
  ⟨h.os, h.tape, h.output, h.size, fun i hi _ => h.block i (by omega)⟩
theorem bldF_below {w w' : World} {B b : Nat} {bs : List Value} (h : Lib.IsBuilderF 45 5 B b bs w) (hb : Below w.heap.size w w') : Lib.IsBuilderF 45 5 B b bs w' := by
  have hg : w.grownBy w' none := gbelow none hb (Nat.le_refl _)
  have one : ∀ p, Lib.BuilderAtF 45 5 B b p bs w → Lib.BuilderAtF 45 5 B b p bs w' := by
    rintro p ⟨hB, v, hk, hown, hne⟩
    refine ⟨hB, v, ?_, hown.kept hg ?_, hne⟩
    · rw [hb.block b (Array.getElem?_eq_some_iff.1 hk).1]; exact hk
    · cases v.ownBlock with
      | none => exact Or.inl rfl
      | some _ => exact Or.inr (by simp)
  exact h.elim (fun x => Or.inl (one _ x)) (fun x => Or.inr (one _ x))

/-- What Text keeps: the box of the row of goals at q, the row at g, the box of the bytes at p, the builder at c. -/
structure TI (bs : Nat → Int) (ad : Option Addr) (len cap : Nat) (w : World) (g q p c : Nat) (l : List UInt8) (W : World) : Prop where
  bel : Below w.heap.size w W
  box : W.heap[q]? = some (.cells #[.slice (some ⟨g, 0, none⟩) ((len + 1) / 2) ((len + 1) / 2)] 41 (0, 0))
  row : BRow W g ((len + 1) / 2) (ledB bs len ((len + 1) / 2))
  byt : W.heap[p]? = some (.cells #[.slice ad len cap] 22 (0, 0))
  bld : Lib.IsBuilderF 45 5 w.heap.size c (Lib.byteCells l) W
  ne1 : q ≠ c
  ne2 : g ≠ c
  ne3 : p ≠ c
theorem TI.put {bs : Nat → Int} {ad : Option Addr} {len cap : Nat} {w : World} {g q p c : Nat} {l l' : List UInt8} {W W' : World} (h : TI bs ad len cap w g q p c l W) (hn : PrN w.heap.size c W W') (hb : Lib.IsBuilderF 45 5 w.heap.size c (Lib.byteCells l') W') : TI bs ad len cap w g q p c l' W' :=
  ⟨h.bel.trans hn.bel, hn.cells h.box h.ne1 (by decide), by obtain ⟨cs, h1, h2⟩ := h.row; exact ⟨cs, hn.cells h1 h.ne2 (by decide), h2⟩, hn.cells h.byt h.ne3 (by decide), hb, h.ne1, h.ne2, h.ne3⟩
theorem TI.lt {bs : Nat → Int} {ad : Option Addr} {len cap : Nat} {w : World} {g q p c : Nat} {l : List UInt8} {W : World} (h : TI bs ad len cap w g q p c l W) : c < W.heap.size := by
  rcases h.bld with h | h <;> exact h.lt
theorem TI.next {bs : Nat → Int} {ad : Option Addr} {len cap : Nat} {w : World} {g q p c : Nat} {l : List UInt8} {W W' : World} (h : TI bs ad len cap w g q p c l W) (hb : Below W.heap.size W W') : TI bs ad len cap w g q p c l W' :=
  h.put (PrN.of_below hb h.bel.size) (bldF_below h.bld hb)
theorem TI.write {bs : Nat → Int} {ad : Option Addr} {len cap : Nat} {w : World} {g q p c : Nat} {l : List UInt8} {W : World} (h : TI bs ad len cap w g q p c l W) (s : List UInt8) (hl : l.length + s.length ≤ 140737488355328) :
    Calls Tryz.prog 13 #[.pointer (some ⟨c, 0, none⟩), .string ⟨s.toArray⟩] W fun e W' => e = .returned (.tuple #[.int .i64 s.length, .nilIface]) ∧ TI bs ad len cap w g q p c (l ++ s) W' ∧ PrN w.heap.size c W W' := by
  refine (Any.Builder_WriteString_k Tryz.lays166 Tryz.Builder_Extra_166 w.heap.size c (Lib.byteCells l) ⟨s.toArray⟩ W h.bld (by rw [Lib.byteCells_length]; simpa [ByteArray.size] using hl) h.bel.size).mono ?_
  rintro e W' ⟨rfl, hA, hbel, hk⟩
  refine ⟨rfl, h.put ⟨hbel, hk⟩ (Or.inr ?_), ⟨hbel, hk⟩⟩
  rw [Lib.byteCells_append]
  exact hA

set_option maxRecDepth 100000 in
set_option maxHeartbeats 4000000 in
theorem text1_any {bs : Nat → Int} {ad : Option Addr} {len cap : Nat} {w W : World} {g q p c k : Nat} (hD : DL w) (hR : BR w ad len bs) (a : Int) (ha : a = 2 * k) (hk : 2 * k < len) (hI : TI bs ad len cap w g q p c (textTo bs len k) W) :
    Calls Tryz.prog 12 #[.int .i64 a, .agg #[.int .i64 (tV bs len k 0), .int .i64 (tV bs len k 1), .int .i64 (tV bs len k 2), .int .i64 (tV bs len k 3)], .bool (toldB bs len k), .pointer (some ⟨q, 0, none⟩), .pointer (some ⟨c, 0, none⟩), .pointer (some ⟨p, 0, none⟩)] W fun e W' => e = .returned (.tuple #[]) ∧ TI bs ad len cap w g q p c (textTo bs len (k + 1)) W' := by
  have hf := hR.few
  have hcW : ¬ W.heap.size = c := Nat.ne_of_gt hI.lt
  have HI0 := Lib.hid (hI.next (oalloc W (.cells #[.int .i64 (tV bs len k 0), .int .i64 (tV bs len k 1), .int .i64 (tV bs len k 2), .int .i64 (tV bs len k 3)] 39)))
  obtain ⟨_, b1, b2, b3, b4, b5, b6⟩ := dV_all (halfW bs k)
  have hq : a.tdiv 2 = k := by rw [ha]; exact Int.mul_tdiv_cancel_left _ (by omega)
  have hkl : k < (len + 1) / 2 := by omega
  have hki : (k : Int) < (((len + 1) / 2 : Nat) : Int) := by omega
  have HPL : Hid (∀ W', Below w.heap.size w W' → Calls Tryz.prog 14 #[.int .i64 a] W' fun e w' => e = .returned (.string ⟨(placeL (2 * k)).toArray⟩) ∧ Below W'.heap.size W' w') := fun W' hb => by
    have := place_any a W' (by omega) (by omega) (hD.next hb)
    rw [ha] at this ⊢
    exact this
  have HDA : Hid (∀ W', Below w.heap.size w W' → toldB bs len k = false → Calls Tryz.prog 15 #[.slice ad len cap, .int .i64 a] W' fun e w' => e = .returned (.string ⟨(rowL bs len k).toArray⟩) ∧ Below W'.heap.size W' w') := fun W' hb htd => by
    have := data_any (cap := cap) (hD.next hb) (hR.next hb) k a ha hk
    unfold rowL
    rw [if_neg (by rw [htd]; simp)]
    exact this
  have HLI : Hid (∀ W', Below w.heap.size w W' → toldB bs len k = true → Calls Tryz.prog 9 #[.agg #[.int .i64 (tV bs len k 0), .int .i64 (tV bs len k 1), .int .i64 (tV bs len k 2), .int .i64 (tV bs len k 3)], .int .i64 a] W' fun e w' => e = .returned (.string ⟨(rowL bs len k).toArray⟩) ∧ Below W'.heap.size W' w') := fun W' hb htd => by
    have := line_any (dV (halfW bs k) 0) (dV (halfW bs k) 1) (dV (halfW bs k) 2) (dV (halfW bs k) 3) a W' (hD.next hb) (by omega) (by omega) b1 b2 b3 b4 b5 b6
    unfold rowL tV
    simp only [if_pos htd]
    rw [ha] at this ⊢
    exact this
  have hrf := rowL_few hR.byt len k
  have htf := textTo_few hR.byt len k
  have hpf := placeL_few (2 * k)
  have HTX : Hid (textTo bs len (k + 1) = textTo bs len k ++ (if ledB bs len ((len + 1) / 2) k = true then placeL (2 * k) ++ [58, 10] else []) ++ (rowL bs len k ++ [10])) := rfl
  have hct : (⟨(placeL (2 * k)).toArray⟩ : ByteArray) ++ ⟨#[58, 10]⟩ = ⟨(placeL (2 * k) ++ [58, 10]).toArray⟩ := bcat _ [58, 10]
  have hcr : (⟨(rowL bs len k).toArray⟩ : ByteArray) ++ ⟨#[10]⟩ = ⟨(rowL bs len k ++ [10]).toArray⟩ := bcat _ [10]
  have hs1 : ¬ 9223372036854775807 < (placeL (2 * k)).length + 2 := by omega
  have hs2 : ¬ 9223372036854775807 < (rowL bs len k).length + 1 := by omega
  have HL1 : Hid ((textTo bs len k).length + (placeL (2 * k) ++ [58, 10]).length ≤ 140737488355328) := by unfold Hid; simp; omega
  have HL2 : Hid (∀ x : List UInt8, x.length ≤ 20 → (textTo bs len k ++ x).length + (rowL bs len k ++ [10]).length ≤ 140737488355328) := fun x hx => by simp; omega
  have HPF : Hid ((placeL (2 * k) ++ [58, 10]).length ≤ 20) := by unfold Hid; simp; omega
  rw [HTX.out]
  clear HTX hD hR ha b1 b2 b3 b4 b5 b6 hI hrf htf hpf
  generalize textTo bs len k = tx at *
  generalize tV bs len k 0 = d0 at *
  generalize tV bs len k 1 = d1 at *
  generalize tV bs len k 2 = d2 at *
  generalize tV bs len k 3 = d3 at *
  generalize rowL bs len k = rl at *
  generalize placeL (2 * k) = pl at *
  generalize pl ++ [58, 10] = pl2 at *
  generalize rl ++ [10] = rl2 at *
  have c0 := cell_of_block (i := 0) HI0.out.box rfl
  have c1 := (HI0.out.row.cell hkl).1
  have HBX : Hid (∀ l W', TI bs ad len cap w g q p c l W' → Below w.heap.size w W' ∧ W'.cell? ⟨p, 0, none⟩ = some (.slice ad len cap)) := fun l W' h => ⟨h.bel, cell_of_block (i := 0) h.byt rfl⟩
  have HNX : Hid (∀ l W' W'', TI bs ad len cap w g q p c l W' → Below W'.heap.size W' W'' → TI bs ad len cap w g q p c l W'') := fun l W' W'' h hb => h.next hb
  have HWR : Hid (∀ l s W', l.length + s.length ≤ 140737488355328 → TI bs ad len cap w g q p c l W' → Calls Tryz.prog 13 #[.pointer (some ⟨c, 0, none⟩), .string ⟨s.toArray⟩] W' fun e W'' => e = .returned (.tuple #[.int .i64 s.length, .nilIface]) ∧ TI bs ad len cap w g q p c (l ++ s) W'' ∧ PrN w.heap.size c W' W'') := fun l s W' hl h => h.write s hl
  generalize (len + 1) / 2 = h at *
  generalize TI bs ad len cap w g q p c = J at *
  have c2 := (HBX.out _ _ HI0.out).2
  cases hled : ledB bs len h k
  · rw [hled] at c1
    rw [if_neg (by simp), List.append_nil]
    have HL3 : Hid (tx.length + rl2.length ≤ 140737488355328) := by have := HL2.out [] (by simp); unfold Hid; simpa using this
    cases htd : toldB bs len k
    · have HC := Lib.hid (HDA.out _ (HBX.out _ _ HI0.out).1 htd)
      clear HDA HLI HPL
      go_enter Tryz.func12, Tryz.ntmps12
      go_wp2_with (first | (go_at_call 15; refine HC.out.mono ?_; rintro e W1 ⟨rfl, hb1⟩; have HI1 := Lib.hid (HNX.out _ _ _ HI0.out hb1); clear hb1) | (go_at_call 13; refine (HWR.out _ _ _ HL3.out HI1.out).mono ?_; rintro e W2 ⟨rfl, hi2, _⟩; have HI2 := Lib.hid hi2; clear hi2) | fail)
      exact bodyPost_end (v := .tuple #[]) (by simp [results, Tryz.results12, go_sem]) rfl ⟨rfl, HI2.out⟩
    · have HC := Lib.hid (HLI.out _ (HBX.out _ _ HI0.out).1 htd)
      clear HDA HLI HPL
      go_enter Tryz.func12, Tryz.ntmps12
      go_wp2_with (first | (go_at_call 9; refine HC.out.mono ?_; rintro e W1 ⟨rfl, hb1⟩; have HI1 := Lib.hid (HNX.out _ _ _ HI0.out hb1); clear hb1) | (go_at_call 13; refine (HWR.out _ _ _ HL3.out HI1.out).mono ?_; rintro e W2 ⟨rfl, hi2, _⟩; have HI2 := Lib.hid hi2; clear hi2) | fail)
      exact bodyPost_end (v := .tuple #[]) (by simp [results, Tryz.results12, go_sem]) rfl ⟨rfl, HI2.out⟩
  · rw [hled] at c1
    rw [if_pos rfl]
    have HL3 := Lib.hid (HL2.out pl2 HPF.out)
    have HP := Lib.hid (HPL.out _ (HBX.out _ _ HI0.out).1)
    cases htd : toldB bs len k
    · clear HLI HPL
      go_enter Tryz.func12, Tryz.ntmps12
      go_wp2_with (first | (go_at_call 14; refine HP.out.mono ?_; rintro e W1 ⟨rfl, hb1⟩; have HI1 := Lib.hid (HNX.out _ _ _ HI0.out hb1); clear hb1) | (go_at_call 13; refine (HWR.out _ _ _ HL1.out HI1.out).mono ?_; rintro e W2 ⟨rfl, hi2, _⟩; have HI2 := Lib.hid hi2; have c3 := (HBX.out _ _ hi2).2; clear hi2 HI1) | (go_at_call 15; refine (HDA.out _ (HBX.out _ _ HI2.out).1 htd).mono ?_; rintro e W3 ⟨rfl, hb3⟩; have HI3 := Lib.hid (HNX.out _ _ _ HI2.out hb3); clear hb3) | (go_at_call 13; refine (HWR.out _ _ _ HL3.out HI3.out).mono ?_; rintro e W4 ⟨rfl, hi4, _⟩; have HI4 := Lib.hid hi4; clear hi4) | fail)
      exact bodyPost_end (v := .tuple #[]) (by simp [results, Tryz.results12, go_sem]) rfl ⟨rfl, HI4.out⟩
    · clear HDA HPL
      go_enter Tryz.func12, Tryz.ntmps12
      go_wp2_with (first | (go_at_call 14; refine HP.out.mono ?_; rintro e W1 ⟨rfl, hb1⟩; have HI1 := Lib.hid (HNX.out _ _ _ HI0.out hb1); have HBK := Lib.hid ((hb1.block W.heap.size (by simp)).trans (blk_new _ _ _)); clear hb1) | (go_at_call 13; refine (HWR.out _ _ _ HL1.out HI1.out).mono ?_; rintro e W2 ⟨rfl, hi2, hn2⟩; have HI2 := Lib.hid hi2; have n0 := cell_of_block (i := 0) (hn2.cells HBK.out hcW (by decide)) rfl; have n1 := cell_of_block (i := 1) (hn2.cells HBK.out hcW (by decide)) rfl; have n2 := cell_of_block (i := 2) (hn2.cells HBK.out hcW (by decide)) rfl; have n3 := cell_of_block (i := 3) (hn2.cells HBK.out hcW (by decide)) rfl; clear hi2 HI1 hn2 HBK) | (go_at_call 9; refine (HLI.out _ (HBX.out _ _ HI2.out).1 htd).mono ?_; rintro e W3 ⟨rfl, hb3⟩; have HI3 := Lib.hid (HNX.out _ _ _ HI2.out hb3); clear hb3) | (go_at_call 13; refine (HWR.out _ _ _ HL3.out HI3.out).mono ?_; rintro e W4 ⟨rfl, hi4, _⟩; have HI4 := Lib.hid hi4; clear hi4) | fail)
      exact bodyPost_end (v := .tuple #[]) (by simp [results, Tryz.results12, go_sem]) rfl ⟨rfl, HI4.out⟩

end Go.Proofs.YtjmjhbdlbmnllaaGreatDoor.Di

namespace Go.Proofs.YtjmjhbdlbmnllaaGreatDoor.Di
open Go.RowKit Isa

set_option maxRecDepth 100000 in
set_option maxHeartbeats 4000000 in
theorem text_any {w : World} {ad : Option Addr} {len cap : Nat} {bs : Nat → Int} (hD : DL w) (hR : BR w ad len bs) :
    Calls Tryz.prog 5 #[.slice ad len cap] w fun e w' => e = .returned (.string ⟨(textTo bs len ((len + 1) / 2)).toArray⟩) ∧ Below w.heap.size w w' := by
  have HB0 := Lib.hid (oalloc w (.cells #[.slice ad len cap] 22))
  have HGO := Lib.hid (goals_any (cap := cap) (hD.next HB0.out) (hR.next HB0.out))
  have HEA := Lib.hid (fun (W : World) (g q p c : Nat) (hI : TI bs ad len cap w g q p c (textTo bs len 0) W) => each_any (cap := cap) (w := W) hD hR 12 #[.pointer (some ⟨q, 0, none⟩), .pointer (some ⟨c, 0, none⟩), .pointer (some ⟨p, 0, none⟩)] (by intro args w; rfl) (fun k W => TI bs ad len cap w g q p c (textTo bs len k) W) (fun _ _ h => h.bel) (fun _ _ _ h hb => h.next hb) (fun k a W ha hk h => text1_any hD hR a ha hk h) hI)
  clear hD hR
  have HST := Lib.hid (fun (W : World) (g q p c : Nat) (hI : TI bs ad len cap w g q p c (textTo bs len ((len + 1) / 2)) W) => Tryz.Builder_String_any_k w.heap.size c (textTo bs len ((len + 1) / 2)) W hI.bld hI.bel.size)
  have HNEW : Hid (∀ (W1 : World) (g : Nat), (w.alloc (.cells #[.slice ad len cap] 22)).heap.size ≤ g → Below (w.alloc (.cells #[.slice ad len cap] 22)).heap.size (w.alloc (.cells #[.slice ad len cap] 22)) W1 → BRow W1 g ((len + 1) / 2) (ledB bs len ((len + 1) / 2)) →
      TI bs ad len cap w g W1.heap.size w.heap.size (W1.heap.size + 1) (textTo bs len 0) ((W1.alloc (.cells #[.slice (some ⟨g, 0, none⟩) ((len + 1) / 2) ((len + 1) / 2)] 41)).alloc (.cells #[.pointer none, .slice none 0 0] 45))) := by
    intro W1 g hge hb1 hrow
    have hz := hb1.size
    simp at hz hge
    have hgl := hrow.lt
    have hb2 : Below W1.heap.size W1 ((W1.alloc (.cells #[.slice (some ⟨g, 0, none⟩) ((len + 1) / 2) ((len + 1) / 2)] 41)).alloc (.cells #[.pointer none, .slice none 0 0] 45)) := (oalloc _ _).trans ((oalloc _ _).mono (by simp))
    have hbk : ((W1.alloc (.cells #[.slice (some ⟨g, 0, none⟩) ((len + 1) / 2) ((len + 1) / 2)] 41)).alloc (.cells #[.pointer none, .slice none 0 0] 45)).heap[W1.heap.size + 1]? = some (.cells #[.pointer none, .slice none 0 0] 45 (0, 0)) := by
      have := blk_new (W1.alloc (.cells #[.slice (some ⟨g, 0, none⟩) ((len + 1) / 2) ((len + 1) / 2)] 41)) #[.pointer none, .slice none 0 0] 45
      simpa using this
    refine ⟨(HB0.out.trans (hb1.mono (by simp))).trans (hb2.mono (by omega)), ?_, hrow.go (hb2.block _ hgl), ?_, Or.inl ⟨by omega, .slice none 0 0, hbk, World.ownsRowF_nil _ _ _ _, by simp [Value.ownBlock]⟩, by omega, by omega, by omega⟩
    · rw [(oalloc _ _).block _ (by simp)]
      exact blk_new _ _ _
    · rw [hb2.block _ (by omega), hb1.block _ (by simp)]
      exact blk_new _ _ _
  go_enter Tryz.func5, Tryz.ntmps5
  go_wp2_with (first | (go_at_call 10; refine HGO.out.mono ?_; rintro e W1 ⟨g, rfl, hge, hb1, hrow⟩; have HI0 := Lib.hid (HNEW.out W1 g hge hb1 hrow); have hlt : w.heap.size < W1.heap.size := (by have := hb1.size; simp at this; omega); have c0 := cell_of_block (i := 0) ((hb1.block w.heap.size (by simp)).trans (blk_new _ _ _)) rfl; clear hge hb1 hrow) | (go_at_call 11; refine (HEA.out _ _ _ _ _ HI0.out).mono ?_; rintro e W2 ⟨rfl, hi2⟩; have HS := Lib.hid (HST.out _ _ _ _ _ hi2); have HB2 := Lib.hid hi2.bel; clear hi2) | (go_at_call 16; refine HS.out.mono ?_; rintro e W3 ⟨rfl, _, hb3, _⟩; have HB3 := Lib.hid (HB2.out.trans hb3); clear hb3) | fail)
  go_ret
  exact ⟨rfl, HB3.out⟩

end Go.Proofs.YtjmjhbdlbmnllaaGreatDoor.Di
