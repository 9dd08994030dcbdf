/- expr's Add of one token; Macro's expression and First of a text of one token. asm: operands. asm: all operands of a line. asm: operands that are registers; values of a pool; numbers. -/
import Derived.Test.YtjmjhbdlbmnllaaGreatDoorPut31
import Derived.Test.YtjmjhbdlbmnllaaGreatDoorPut29
import Derived.Test.YtjmjhbdlbmnllaaGreatDoorPut30
namespace Go.Proofs.YtjmjhbdlbmnllaaGreatDoor
open Go.RowKit

/-- A token that is an expression: a number, or a name; the value's name and number. -/
def AtomK (k n : Int) (t : ByteArray) (nm : ByteArray) (v : Int) : Prop := (k = 2 ∧ nm = ⟨#[]⟩ ∧ v = wrap32 n) ∨ (k = 1 ∧ nm = t ∧ v = 0 ∧ Xp.nameR t.data.toList = true)

theorem next_atom (g q : Nat) (u : Bool) (k n : Int) (t nm : ByteArray) (v : Int) (hk : AtomK k n t nm v) (w : World) (hL : Xp.KLaid w) (h : PR w g q ⟨#[]⟩ false (.slice none 0 0) u 0 false ⟨#[]⟩ 0) :
    Calls Tryz.prog 218 #[.pointer (some ⟨g, 0, none⟩), tokV k n t] w fun r w' => r = .returned (.int .i64 0) ∧ PR w' g q ⟨#[]⟩ true (.slice none 0 0) u 0 true nm v ∧ F2 g q w w' := by
  rcases hk with ⟨rfl, rfl, rfl⟩ | ⟨rfl, rfl, rfl, hn⟩
  · exact next_num g q u n t w hL h
  · exact next_name g q u n _ hn w hL h

theorem add_atom (g q : Nat) (u : Bool) (k n : Int) (t nm : ByteArray) (v : Int) (hk : AtomK k n t nm v) (w : World) (hL : Xp.KLaid w) (h : PR w g q ⟨#[]⟩ false (.slice none 0 0) u 0 false ⟨#[]⟩ 0) :
    Calls Tryz.prog 198 #[.pointer (some ⟨g, 0, none⟩), tokV k n t] w fun r w' => r = .returned (.tuple #[]) ∧ PR w' g q ⟨#[]⟩ true (.slice none 0 0) u 0 true nm v ∧ F2 g q w w' := by
  have c1 : w.cell? ⟨g, 1, none⟩ = some (.bool false) := blk_cell h.pt rfl
  have c6 : w.cell? ⟨g, 6, none⟩ = some (.int .i64 0) := blk_cell h.pt rfl
  have hg := blk_lt h.pt
  have HN := Lib.hid fun W (hb : Below w.heap.size w W) => next_atom g q u k n t nm v hk W (KL.below hL hb) (h.go hb)
  clear h hL hk
  unfold tokV at *
  go_enter Tryz.func198, Tryz.ntmps198
  go_wp2_with fail
  refine (HN.out _ (oalloc _ _)).mono ?_
  rintro e w1 ⟨rfl, hp1, hb1⟩
  have d6 : w1.cell? ⟨g, 6, none⟩ = some (.int .i64 0) := blk_cell hp1.pt rfl
  have f6 : w1.frozen? ⟨g, 6, none⟩ = false := blk_froz hp1.pt
  have hg1 := blk_lt hp1.pt
  have HP1 := Lib.hid hp1
  have HB1 := Lib.hid hb1
  clear hp1 hb1
  go_wp2
  refine bodyPost_end (v := .tuple #[]) (by simp [results, Tryz.results198, go_sem]) rfl ⟨rfl, ?_, ?_⟩
  · exact HP1.out.go (same_set HP1.out.pt rfl)
  · exact ((F2.below (oalloc _ _)).trans HB1.out).trans (F2.below (same_set HP1.out.pt rfl))

theorem rread_no (gr go' b o len cap : Nat) (gp : Nat) (w : World) (c0 : w.cell? ⟨gr, go', none⟩ = some (.slice (some ⟨b, o, none⟩) (len + 1) cap)) (c1 : w.cell? ⟨gr, go' + 1, none⟩ = some (.pointer (some ⟨gp, 0, none⟩))) (c6 : w.cell? ⟨gp, 6, none⟩ = some (.int .i64 0)) :
    Calls Tryz.prog 197 #[.pointer (some ⟨gr, go', none⟩)] w fun r w' => r = .returned (.bool false) ∧ w = w' := by
  have h1 : ((len : Int) + 1 == 0) = false := by simp; omega
  go_enter Tryz.func197, Tryz.ntmps197
  go_wp2_with (go_at_call 203; refine (err_any gp 0 _ c6).mono ?_; rintro e w' ⟨rfl, rfl⟩)
  go_ret
  exact ⟨rfl, rfl⟩
theorem rread_yes (gr go' cap : Nat) (ad : Option Addr) (w : World) (c0 : w.cell? ⟨gr, go', none⟩ = some (.slice ad 0 cap)) :
    Calls Tryz.prog 197 #[.pointer (some ⟨gr, go', none⟩)] w fun r w' => r = .returned (.bool true) ∧ w = w' := by
  go_enter Tryz.func197, Tryz.ntmps197
  go_wp2_with fail
  go_ret
  exact ⟨rfl, rfl⟩

set_option maxHeartbeats 2000000 in
theorem expression_atom (b o cap : Nat) (k n : Int) (t nm : ByteArray) (v : Int) (hk : AtomK k n t nm v) (w : World) (hL : Xp.KLaid w) (hb : b < w.heap.size) (_ : cap + 1 ≤ maxLen)
    (c0 : w.cell? ⟨b, o, none⟩ = some (.int .i64 k)) (c1 : w.cell? ⟨b, o + 1, none⟩ = some (.int .i64 n)) (c2 : w.cell? ⟨b, o + 2, none⟩ = some (.string t)) (c3 : w.cell? ⟨b, o + 3, none⟩ = some (.pointer none)) :
    Calls Tryz.prog 166 #[.slice (some ⟨b, o, none⟩) 1 (cap + 1), .slice none 0 0] w fun r w' => (∃ g q, r = .returned (.pointer (some ⟨g, 0, none⟩)) ∧ PR w' g q ⟨#[]⟩ true (.slice none 0 0) false 0 true nm v) ∧ Below w.heap.size w w' := by
  have hmm : ∀ w, (Instr.makeMap 277 none).run Tryz.prog w = .ok (.map (some w.heap.size)) (w.alloc (.map #[] 0)) := fun w => rfl
  have HL := Lib.hid hL
  clear hL
  go_enter Tryz.func166, Tryz.ntmps166
  go_wp2_with fail
  refine (from_any ⟨#[]⟩ false none 0 0 _).mono ?_
  rintro e w1 ⟨⟨g, q, rfl, hg, hq, hp1⟩, hb1⟩
  have hB1 : Below w.heap.size w w1 := Below.trans (by go_grown) (hb1.mono (by go_size))
  have d0 := (hB1.cell (by show b < w.heap.size; exact hb)).trans c0
  have d1 := (hB1.cell (by show b < w.heap.size; exact hb)).trans c1
  have d2 := (hB1.cell (by show b < w.heap.size; exact hb)).trans c2
  have d3 := (hB1.cell (by show b < w.heap.size; exact hb)).trans c3
  have hb' : b < w1.heap.size := Nat.lt_of_lt_of_le hb hB1.size
  have HP1 := Lib.hid hp1
  have HB1 := Lib.hid hB1
  have hg1 := blk_lt hp1.pt
  have hq1 := blk_lt hp1.ch
  simp only [World.size_alloc] at hg hq
  clear hb1 hB1 hp1
  go_wp2_with fail
  have hr2 : (w1.alloc (.cells #[.slice (some ⟨b, o, none⟩) 1 (cap + 1), .pointer (some ⟨g, 0, none⟩), .pointer none, .string ⟨#[]⟩, .bool false] 284)).heap[w1.heap.size]? = some (.cells #[.slice (some ⟨b, o, none⟩) 1 (cap + 1), .pointer (some ⟨g, 0, none⟩), .pointer none, .string ⟨#[]⟩, .bool false] 284 (0, 0)) := new_at _ _ rfl
  have hb2 : Below w1.heap.size w1 (w1.alloc (.cells #[.slice (some ⟨b, o, none⟩) 1 (cap + 1), .pointer (some ⟨g, 0, none⟩), .pointer none, .string ⟨#[]⟩, .bool false] 284)) := oalloc _ _
  generalize w1.alloc (.cells #[.slice (some ⟨b, o, none⟩) 1 (cap + 1), .pointer (some ⟨g, 0, none⟩), .pointer none, .string ⟨#[]⟩, .bool false] 284) = W2 at *
  replace d0 := (hb2.cell (by show b < w1.heap.size; exact hb')).trans d0
  replace d1 := (hb2.cell (by show b < w1.heap.size; exact hb')).trans d1
  replace d2 := (hb2.cell (by show b < w1.heap.size; exact hb')).trans d2
  replace d3 := (hb2.cell (by show b < w1.heap.size; exact hb')).trans d3
  have hz2 := blk_lt hr2
  have x0 : W2.cell? ⟨w1.heap.size, 0, none⟩ = some (.slice (some ⟨b, o, none⟩) 1 (cap + 1)) := blk_cell hr2 rfl
  have x1 : W2.cell? ⟨w1.heap.size, 1, none⟩ = some (.pointer (some ⟨g, 0, none⟩)) := blk_cell hr2 rfl
  have hpt := (HP1.out.go hb2).pt
  have x6 : W2.cell? ⟨g, 6, none⟩ = some (.int .i64 0) := blk_cell hpt rfl
  have HR2 := Lib.hid hr2
  have HB2 : Hid (Below w.heap.size w W2) := HB1.out.trans (hb2.mono (by have := HB1.out.size; omega))
  have HRD := Lib.hid (rread_no w1.heap.size 0 b o 0 (cap + 1) g W2 x0 x1 x6)
  have HAD := Lib.hid fun W (hb : Below W2.heap.size W2 W) => add_atom g q false k n t nm v hk W (KL.below (KL.below HL.out HB2.out) hb) ((HP1.out.go hb2).go hb)
  have hsz := HB1.out.size
  clear hr2 hb2 hpt HB1 c0 c1 c2 c3 hk HL
  unfold tokV at HAD
  refine wp_loop_rounds 2 ?_
  rw [rounds_succ]
  obtain ⟨ad', HA'⟩ : ∃ ad' : Option Addr, Hid ((if cap = 0 then some (⟨b, o, none⟩ : Addr) else some ⟨b, o + 4, none⟩) = ad') := ⟨_, Lib.hid rfl⟩
  go_wp2_with (go_at_call 197; refine HRD.out.mono ?_; rintro e w' ⟨rfl, rfl⟩)
  go_region_with (go_at_call 198; refine (HAD.out _ (Below.refl _ _).drew).mono ?_; rintro e w3 ⟨rfl, hp3, hf3⟩; have hr3 := (hf3.block _ hz2 (by omega) (by omega)).trans HR2.out; have y0 : w3.cell? ⟨w1.heap.size, 0, none⟩ = some (.slice (some ⟨b, o, none⟩) 1 (cap + 1)) := blk_cell hr3 rfl; have y1 : w3.frozen? ⟨w1.heap.size, 0, none⟩ = false := blk_froz hr3; have y2 : w3.cell? ⟨w1.heap.size, 1, none⟩ = some (.pointer (some ⟨g, 0, none⟩)) := blk_cell hr3 rfl; have hz3 := blk_lt hr3; have HR3 := Lib.hid hr3; have HP3 := Lib.hid hp3; have HF3 := Lib.hid hf3; clear hr3 hp3 hf3)
  all_goals go_wp2_with fail
  all_goals
    rw [rounds_succ]
    go_wp2_with (go_at_call 197; refine (rread_yes _ _ _ _ _ (blk_cell (blk_set HR3.out) rfl)).mono ?_; rintro e w' ⟨rfl, rfl⟩)
    go_returns
    refine ⟨⟨g, q, rfl, ?_⟩, ?_⟩
    · exact ⟨by rw [Below.heap_setCell _ _ _ _ (by show g ≠ w1.heap.size; omega)]; exact HP3.out.pt, by rw [Below.heap_setCell _ _ _ _ (by show q ≠ w1.heap.size; omega)]; exact HP3.out.ch⟩
    · exact (HB2.out.trans ((Below.refl _ _).drew.trans (HF3.out.to (by omega) (by omega) (by show w.heap.size ≤ W2.heap.size; omega)))).setCell (by omega) _

/-- The value of a text of one token that is an expression. -/
theorem mfirst_atom (v : Value) (x : Tk) (nm : ByteArray) (n : Int) (hk : AtomK x.k x.n x.t nm n) (w : World) (hL : Xp.KLaid w) (h : PReads w v [x]) :
    Calls Tryz.prog 173 #[v, .slice none 0 0] w fun r w' => r = .returned (.tuple #[.agg #[.string nm, .int .i64 n], .bool true, .int .i64 0]) ∧ Below w.heap.size w w' := by
  obtain ⟨ad, cap, rfl, hc, hm, h⟩ := h
  obtain ⟨b, o, rfl, hb, hcell⟩ := h (by simp)
  have c := hcell 0 (by simp)
  simp only [Nat.zero_mul, Nat.add_zero, List.getElem_cons_zero] at c
  obtain ⟨c0, c1, c2, c3⟩ := c
  obtain ⟨cap, rfl⟩ : ∃ k, cap = k + 1 := ⟨cap - 1, by simp at hc; omega⟩
  have HE := Lib.hid fun W (hb' : Below w.heap.size w W) => expression_atom b o cap x.k x.n x.t nm n hk W (KL.below hL hb') (Nat.lt_of_lt_of_le hb hb'.size) hm (by rw [hb'.cell (by exact hb)]; exact c0) (by rw [hb'.cell (by exact hb)]; exact c1) (by rw [hb'.cell (by exact hb)]; exact c2) (by rw [hb'.cell (by exact hb)]; exact c3)
  clear hL hcell h hk c0 c1 c2 c3
  simp only [List.length_singleton]
  go_enter Tryz.func173, Tryz.ntmps173
  go_wp2_with fail
  refine (HE.out _ (oalloc _ _)).mono ?_
  rintro e w1 ⟨⟨g, q, rfl, hp1⟩, hb1⟩
  obtain ⟨hB1, hz1, xr⟩ := box_keep hb1
  have HB1 := Lib.hid hB1
  have XR := Lib.hid xr
  have HF := Lib.hid fun W (hb : Below w1.heap.size w1 W) => first_one g q _ nm n 0 W (hp1.go hb)
  have HP1 := Lib.hid hp1
  clear hb1 hB1 xr hp1 HE
  go_wp2_with (go_at_call 201; refine (HF.out _ (Below.refl _ _)).mono ?_; rintro e w2 ⟨rfl, hb2⟩; have HB2 := Lib.hid (HB1.out.trans (hb2.mono (by omega))); have HP2 := Lib.hid (HP1.out.go hb2); have xr2 := (hb2.block _ hz1).trans XR.out; obtain ⟨⟨u0, u1⟩, f0, f1⟩ := var2_of xr2; have hz2 := blk_lt xr2; clear hb2 xr2)
  have HE6 : Hid (∀ W, Below w2.heap.size w2 W → Calls Tryz.prog 203 #[.pointer (some ⟨g, 0, none⟩)] W fun r w' => r = .returned (.int .i64 0) ∧ w' = W) := fun W hb => err_any g 0 W (blk_cell (HP2.out.go hb).pt rfl)
  clear HP1 HF XR
  go_region_with (go_at_call 203; refine (HE6.out _ (by go_grown)).mono ?_; rintro e w3 ⟨rfl, rfl⟩)
  all_goals
    go_wp2
    refine bodyPost_ret (v := .tuple #[.agg #[.string nm, .int .i64 n], .bool true, .int .i64 0]) (by simp [results, Tryz.results173, go_sem, World.cell?_alloc_lt, hz2, u0, u1]) rfl ⟨rfl, ?_⟩
    have hb := HB2.out
    go_grown

end Go.Proofs.YtjmjhbdlbmnllaaGreatDoor

namespace Go.Proofs.YtjmjhbdlbmnllaaGreatDoor
open Go.RowKit

/-- An operand as one value. -/
def opV (kd : ByteArray) (r : Int) (nm : ByteArray) (n : Int) : Value := .agg #[.string kd, .int .i64 r, .string nm, .int .i64 n]

theorem var4_of {w : World} {R : Nat} {a b c d : Value} {t : TypeId} (h : w.heap[R]? = some (.cells #[a, b, c, d] t (0, 0))) : ((w.cell? ⟨R, 0, none⟩ = some a ∧ w.cell? ⟨R, 1, none⟩ = some b) ∧ (w.cell? ⟨R, 2, none⟩ = some c ∧ w.cell? ⟨R, 3, none⟩ = some d)) ∧ (w.frozen? ⟨R, 0, none⟩ = false ∧ w.frozen? ⟨R, 1, none⟩ = false) ∧ w.frozen? ⟨R, 2, none⟩ = false ∧ w.frozen? ⟨R, 3, none⟩ = false := by
  refine ⟨⟨⟨?_, ?_⟩, ?_, ?_⟩, ⟨?_, ?_⟩, ?_, ?_⟩ <;> simp [World.cell?, World.frozen?, h]

theorem aexpr_atom (gu : Nat) (kd : ByteArray) (v : Value) (x : Tk) (nm : ByteArray) (n : Int) (hk : AtomK x.k x.n x.t nm n) (w : World) (hL : Xp.KLaid w) (h : PReads w v [x]) (c0 : w.cell? ⟨gu, 0, none⟩ = some (.slice none 0 0)) :
    Calls Tryz.prog 141 #[.pointer (some ⟨gu, 0, none⟩), .string kd, v] w fun r w' => r = .returned (.tuple #[opV kd 0 nm n, .int .i64 0]) ∧ Below w.heap.size w w' := by
  have HM := Lib.hid fun W (hb : Below w.heap.size w W) => mfirst_atom v x nm n hk W (KL.below hL hb) (h.below hb (Nat.le_refl _))
  have hg : gu < w.heap.size := World.block_lt_of_cell? w _ c0
  obtain ⟨ad, cap, rfl, _⟩ := h
  clear hL hk
  unfold opV
  go_enter Tryz.func141, Tryz.ntmps141
  go_wp2_with fail
  refine (HM.out _ (oalloc _ _)).mono ?_
  rintro e w1 ⟨rfl, hb1⟩
  obtain ⟨hB1, hz1, xr⟩ := box_keep hb1
  obtain ⟨⟨⟨u0, u1⟩, u2, u3⟩, ⟨f0, f1⟩, f2, f3⟩ := var4_of xr
  have HB1 := Lib.hid hB1
  have XR := Lib.hid xr
  clear hb1 hB1 xr HM
  go_wp2_with fail
  exact bodyPost_ret (v := .tuple #[.agg #[.string kd, .int .i64 0, .string nm, .int .i64 n], .int .i64 0]) (by simp [results, Tryz.results141, go_sem, World.cell?_alloc_lt, hz1, u0, u1, u2, u3]) rfl ⟨rfl, ((((HB1.out.setCell (Nat.le_refl _) _).setCell (Nat.le_refl _) _).setCell (Nat.le_refl _) _).setCell (Nat.le_refl _) _).alloc (by simp; omega) _⟩

/-- An operand that is a place: one token. -/
theorem operand_atom (gu : Nat) (v : Value) (x : Tk) (nm : ByteArray) (n : Int) (hk : AtomK x.k x.n x.t nm n) (w : World) (hL : Xp.KLaid w) (hG : Sc.Glob w) (h : PReads w v [x]) (c0 : w.cell? ⟨gu, 0, none⟩ = some (.slice none 0 0)) (hr : regU x.k x.t.data.toList < 0) :
    Calls Tryz.prog 99 #[.pointer (some ⟨gu, 0, none⟩), v] w fun r w' => r = .returned (.tuple #[opV ⟨#[112]⟩ 0 nm n, .int .i64 0]) ∧ Below w.heap.size w w' := by
  have hg : gu < w.heap.size := World.block_lt_of_cell? w _ c0
  have HN := Lib.hid fun W (hb : Below w.heap.size w W) => next_any v [x] W (h.below hb (Nat.le_refl _))
  have HE := Lib.hid fun W (hb : Below w.heap.size w W) => aexpr_atom gu ⟨#[112]⟩ v x nm n hk W (KL.below hL hb) (h.below hb (Nat.le_refl _)) (by rw [hb.cell (by exact hg)]; exact c0)
  have h3 : (x.k == 3) = false := by rcases hk with ⟨e, _⟩ | ⟨e, _⟩ <;> simp [e]
  have HS : Hid (∀ s W, Calls Tryz.prog 93 #[tokV x.k x.n x.t, .string s] W fun r w' => r = .returned (.bool false) ∧ Below W.heap.size W w') := fun s W => by
    have := asign_any x.k x.n x.t s W
    rwa [h3, Bool.false_and] at this
  have HR : Hid (∀ W, Below w.heap.size w W → ∃ r, r < 0 ∧ Calls Tryz.prog 133 #[tokV x.k x.n x.t] W fun e w' => e = .returned (.int .i64 r) ∧ Below W.heap.size W w') := fun W hb => by
    by_cases h1 : x.k = 1
    · refine ⟨regU 1 x.t.data.toList, by rw [← h1]; exact hr, ?_⟩
      rw [h1]
      exact register_word x.n x.t W (hG.below hb hG.sz)
    · exact ⟨-1, by omega, register_other x.k x.n x.t h1 W⟩
  obtain ⟨ad, cap, rfl, _⟩ := h
  have hrr : regU x.k x.t.data.toList < 0 := hr
  clear hL hk hG hr hrr h3
  unfold opV at *
  unfold Tk.V tokV headT at *
  simp only [List.length_singleton] at *
  go_enter Tryz.func99, Tryz.ntmps99
  go_wp2_with fail
  refine (HN.out _ (oalloc _ _)).mono ?_
  rintro e w1 ⟨⟨v', rfl, hv⟩, hb1⟩
  obtain ⟨ad', cap', rfl, _⟩ := hv
  obtain ⟨hB1, hz1, xr⟩ := box_keep hb1
  simp only [List.tail_cons, List.length_nil]
  clear hb1
  go_wp2_with fail
  refine (HS.out _ _).mono ?_
  rintro e w2 ⟨rfl, hb2⟩
  obtain ⟨hB2, hz2, xt⟩ := box_keep hb2
  have t0 : w2.cell? ⟨w1.heap.size, 0, none⟩ = some (.int .i64 x.k) := blk_cell xt rfl
  have t1 : w2.cell? ⟨w1.heap.size, 1, none⟩ = some (.int .i64 x.n) := blk_cell xt rfl
  have t2 : w2.cell? ⟨w1.heap.size, 2, none⟩ = some (.string x.t) := blk_cell xt rfl
  replace xr := (hB2.block _ (by omega)).trans xr
  have HB := Lib.hid (hB1.trans (hB2.mono (by omega)))
  clear hb2 hB2 hB1
  go_wp2_with fail
  refine (HS.out _ _).mono ?_
  rintro e w3 ⟨rfl, hb3⟩
  replace xt := (hb3.block _ (by omega)).trans xt
  replace xr := (hb3.block _ (by omega)).trans xr
  replace t0 := (hb3.cell (by show w1.heap.size < w2.heap.size; omega)).trans t0
  replace t1 := (hb3.cell (by show w1.heap.size < w2.heap.size; omega)).trans t1
  replace t2 := (hb3.cell (by show w1.heap.size < w2.heap.size; omega)).trans t2
  replace HB := Lib.hid (HB.out.trans (hb3.mono (by omega)))
  have hz3 : w1.heap.size < w3.heap.size := Nat.lt_of_lt_of_le (by omega) hb3.size
  clear hb3
  go_wp2_with fail
  refine (HS.out _ _).mono ?_
  rintro e w4 ⟨rfl, hb4⟩
  replace xt := (hb4.block _ (by omega)).trans xt
  replace xr := (hb4.block _ (by omega)).trans xr
  replace t0 := (hb4.cell (by show w1.heap.size < w3.heap.size; omega)).trans t0
  replace t1 := (hb4.cell (by show w1.heap.size < w3.heap.size; omega)).trans t1
  replace t2 := (hb4.cell (by show w1.heap.size < w3.heap.size; omega)).trans t2
  replace HB := Lib.hid (HB.out.trans (hb4.mono (by omega)))
  have hz4 : w1.heap.size < w4.heap.size := Nat.lt_of_lt_of_le (by omega) hb4.size
  clear hb4
  obtain ⟨rg, hrg, hcall⟩ := HR.out w4 HB.out
  have HRC := Lib.hid hcall
  clear hcall
  have hrg' : ¬ (0 : Int) ≤ rg := by omega
  go_wp2_with fail
  refine HRC.out.mono ?_
  rintro e w5 ⟨rfl, hb5⟩
  replace xt := (hb5.block _ (by omega)).trans xt
  replace xr := (hb5.block _ (by omega)).trans xr
  replace t0 := (hb5.cell (by show w1.heap.size < w4.heap.size; omega)).trans t0
  replace t1 := (hb5.cell (by show w1.heap.size < w4.heap.size; omega)).trans t1
  replace t2 := (hb5.cell (by show w1.heap.size < w4.heap.size; omega)).trans t2
  replace HB := Lib.hid (HB.out.trans (hb5.mono (by omega)))
  have hz5 : w1.heap.size < w5.heap.size := Nat.lt_of_lt_of_le (by omega) hb5.size
  clear hb5
  have XR := Lib.hid xr
  clear xr xt t0 t1 t2
  go_wp2_with fail
  refine (HE.out _ HB.out).mono ?_
  rintro e w6 ⟨rfl, hb6⟩
  obtain ⟨⟨⟨u0, u1⟩, u2, u3⟩, ⟨f0, f1⟩, f2, f3⟩ := var4_of ((hb6.block _ (by omega)).trans XR.out)
  have hz6 : w.heap.size < w6.heap.size := Nat.lt_of_lt_of_le (by omega) hb6.size
  replace HB := Lib.hid (HB.out.trans (hb6.mono (by omega)))
  clear hb6
  go_wp2_with fail
  exact bodyPost_ret (v := .tuple #[.agg #[.string ⟨#[112]⟩, .int .i64 0, .string nm, .int .i64 n], .int .i64 0]) (by simp [results, Tryz.results99, go_sem, u0, u1, u2, u3]) rfl ⟨rfl, (((HB.out.setCell (Nat.le_refl _) _).setCell (Nat.le_refl _) _).setCell (Nat.le_refl _) _).setCell (Nat.le_refl _) _⟩

end Go.Proofs.YtjmjhbdlbmnllaaGreatDoor

namespace Go.Proofs.YtjmjhbdlbmnllaaGreatDoor
open Go.RowKit

structure Opd where
  kd : ByteArray
  r : Int
  nm : ByteArray
  n : Int
def Opd.V (x : Opd) : Value := opV x.kd x.r x.nm x.n
def opC (l : List Opd) : List Value := l.flatMap fun x => [.string x.kd, .int .i64 x.r, .string x.nm, .int .i64 x.n]
theorem infoOp : (Tryz.prog.info? 186).map (fun i => (i.zero, i.size, i.bytes)) = some (some (.agg #[.string ⟨#[]⟩, .int .i64 0, .string ⟨#[]⟩, .int .i64 0]), 4, 48) := by kernel_rfl

theorem opC_app (l : List Opd) (x : Opd) : opC (l ++ [x]) = opC l ++ [.string x.kd, .int .i64 x.r, .string x.nm, .int .i64 x.n] := by simp [opC]
theorem splitT_len : ∀ (ts cur : List Tk), (splitT cur ts).length ≤ ts.length + 1
  | [], cur => by simp [splitT]
  | x :: r, cur => by
    rw [splitT]
    split
    · have := splitT_len r []; simp; omega
    · have := splitT_len r (cur ++ [x]); simp; omega
theorem pieces_len (ts : List Tk) : (piecesT ts).length ≤ ts.length + 1 := by
  unfold piecesT
  split
  · simp
  · exact splitT_len ts []

theorem row_cell1 {w : World} {base n : Nat} {e : TypeId} {oa : Option Addr} {oc : Nat} {xs : List Value} (h : w.ownsRow base e 1 (.slice oa n oc) n xs) {k : Nat} (hk : k < n) : ∃ g, oa = some ⟨g, 0, none⟩ ∧ g < w.heap.size ∧ w.cell? ⟨g, k, none⟩ = some (xs[k]'(by have := h.1; omega)) := by
  rcases id h.2 with ⟨hv, h0⟩ | ⟨g, cap, cur, hv, hg, hgg, _⟩
  · omega
  · injection hv with e1 _ _
    subst e1
    refine ⟨g, rfl, blk_lt hgg, ?_⟩
    have := h.cells rfl k _ (List.getElem?_eq_getElem (by have := h.1; omega))
    have hadd : (⟨g, 0, none⟩ : Addr).add k = ⟨g, 0 + k, none⟩ := by unfold Addr.add; split <;> simp_all
    rw [hadd, Nat.zero_add] at this
    exact this

set_option maxHeartbeats 4000000 in
set_option maxRecDepth 100000 in
/-- Operands, each of which is read as it is told. -/
theorem operands_any (gu : Nat) (v : Value) (ts : List Tk) (ops : List Opd) (w : World) (h : PReads w v ts) (hn : ts.length ≤ 1000) (hl : ops.length = (piecesT ts).length)
    (hop : ∀ i (h : i < ops.length) (u : Value) (W : World), Below w.heap.size w W → PReads W u ((piecesT ts)[i]'(by omega)) → Calls Tryz.prog 99 #[.pointer (some ⟨gu, 0, none⟩), u] W fun r w' => r = .returned (.tuple #[ops[i].V, .int .i64 0]) ∧ Below W.heap.size W w') :
    Calls Tryz.prog 55 #[.pointer (some ⟨gu, 0, none⟩), v] w fun r w' => (∃ ov, r = .returned (.tuple #[ov, .int .i64 0]) ∧ w'.ownsRow w.heap.size 186 4 ov ops.length (opC ops)) ∧ Below w.heap.size w w' := by
  have HS := Lib.hid (split_any v ts w h (by omega))
  have hol : ops.length ≤ 1001 := by have := pieces_len ts; omega
  have HOP := Lib.hid hop
  obtain ⟨ad, cap, rfl, _⟩ := h
  clear hop
  go_enter Tryz.func55, Tryz.ntmps55
  go_wp2_with fail
  refine HS.out.mono ?_
  rintro e w1 ⟨⟨ov, vs, rfl, hT⟩, hB1⟩
  obtain ⟨oa, oc, hov⟩ := row_shape hT.1
  subst hov
  have HT := Lib.hid hT
  have HB1 := Lib.hid hB1
  have hvl : vs.length = ops.length := by rw [hl]; exact hT.2.1
  clear hT hB1 HS
  go_wp2_with fail
  go_loopw [7, 16] (fun ov iv wr => ∃ k : Nat, k ≤ ops.length ∧ iv = .int .i64 k ∧ Hid (wr.ownsRow w1.heap.size 186 4 ov k (opC (ops.take k))) ∧ Hid (Below w1.heap.size w1 wr)) (fun _ iv _ => ops.length - (intOf iv).toNat)
  case atStart => exact ⟨0, Nat.zero_le _, rfl, Lib.hid (by simpa [opC] using World.ownsRow_nil w1 _ _ _), Below.refl _ _⟩
  case round =>
    obtain ⟨k, hk, rfl, HR, HB⟩ := hrel
    by_cases hlt : k < ops.length
    · have hk' : (k : Int) < vs.length := by omega
      obtain ⟨g, rfl, hgl, hgc⟩ := row_cell1 HT.out.1 (k := k) (by omega)
      have hz := HB.out.size
      have hB : Below w.heap.size w wr := HB1.out.trans (HB.out.mono HB1.out.size)
      have hkv : k < vs.length := by omega
      have hpk : PReads w (vs[k]'hkv) ((piecesT ts)[k]'(by omega)) := HT.out.2.2 k hkv (by omega)
      obtain ⟨u, hu⟩ : ∃ u, vs[k]'hkv = u := ⟨_, rfl⟩
      rw [hu] at hgc hpk
      clear hu
      obtain ⟨ua, un, uc, rfl⟩ := hpk.shape
      have c0 : wr.cell? ⟨g, k, none⟩ = some (.slice ua un uc) := (HB.out.cell (by show g < w1.heap.size; exact hgl)).trans hgc
      have hg2 : g < wr.heap.size := by omega
      have HC := Lib.hid (HOP.out k hlt (.slice ua un uc) wr hB (hpk.below hB (Nat.le_refl _)))
      have HTK : Hid (opC (ops.take (k + 1)) = opC (ops.take k) ++ [.string ops[k].kd, .int .i64 ops[k].r, .string ops[k].nm, .int .i64 ops[k].n]) := by
        unfold Hid
        rw [List.take_succ_eq_append_getElem hlt, opC_app]
      unfold Opd.V opV at HC
      obtain ⟨x, hx⟩ : ∃ x, ops[k]'hlt = x := ⟨_, rfl⟩
      rw [hx] at HC HTK
      clear hx hpk hB hgc
      obtain ⟨la, lc, hov⟩ := row_shape HR.out
      subst hov
      have HAP : Hid (∀ w2, Below wr.heap.size wr w2 → ∃ la' lc' w3, (∀ ty, (Builtin.append_ #[133, 133] ty #[.slice la k lc, .slice (some ⟨w2.heap.size + 1, 0, none⟩) 1 1]).run Tryz.prog ((w2.alloc (.cells #[.string x.kd, .int .i64 x.r, .string x.nm, .int .i64 x.n] 186)).alloc (.cells #[.string x.kd, .int .i64 x.r, .string x.nm, .int .i64 x.n] 186)) = .ok (.slice la' (k + 1) lc') w3) ∧
          w3.ownsRow w1.heap.size 186 4 (.slice la' (k + 1) lc') (k + 1) (opC (ops.take (k + 1))) ∧ Below w1.heap.size w1 w3) := fun w2 hb => by
        have hz2 := hb.size
        have hrow := ((Sc.owns_below HR.out hb (Nat.le_refl _)).alloc (.cells #[.string x.kd, .int .i64 x.r, .string x.nm, .int .i64 x.n] 186)).alloc (.cells #[.string x.kd, .int .i64 x.r, .string x.nm, .int .i64 x.n] 186)
        obtain ⟨v', w3, happ, hr', hgr⟩ := app1 133 186 _ 4 48 Tryz.underlying133 infoOp rfl (by decide) (by decide) hrow (by go_size) [.string x.kd, .int .i64 x.r, .string x.nm, .int .i64 x.n] rfl (w2.heap.size + 1) (new_at _ _ (by simp)) (by intro u hu; simp at hu; rcases hu with rfl | rfl | rfl | rfl <;> rfl) (by omega)
        obtain ⟨la', lc', rfl⟩ := row_shape hr'
        refine ⟨la', lc', w3, happ, by rw [HTK.out]; exact hr', ?_⟩
        have hb1 := HB.out.trans (hb.mono hz)
        exact ((hb1.alloc (by omega) _).alloc (by go_size) _).grown hgr (by go_size) (fun q hq => (hrow.lt q hq).1)
      go_wp2_with (first
        | (go_at_call 99; refine HC.out.mono ?_; rintro e w2 ⟨rfl, hb2⟩; obtain ⟨la', lc', w3, happ, hr3, hb3⟩ := HAP.out w2 hb2; have HA := Lib.hid happ; have HR3 := Lib.hid hr3; have HB3 := Lib.hid hb3; clear hb2 happ hr3 hb3)
        | (at_builtin; refine wpList_app_eq rfl _ _ _ _ rfl _ _ rfl rfl HA.out ?_))
      exact ⟨⟨k + 1, by omega, by go_num, HR3, HB3⟩, by simp [intOf]; omega⟩
    · obtain rfl : k = ops.length := by omega
      have hk' : ¬ ((ops.length : Nat) : Int) < vs.length := by omega
      obtain ⟨la, lc, hov⟩ := row_shape HR.out
      subst hov
      go_wp2
      go_ret2
      refine ⟨?_, HB1.out.trans (HB.out.mono HB1.out.size)⟩
      have := HR.out
      rw [List.take_length] at this
      have h2 := Sc.ownsRow_base this HB1.out.size
      rw [hl] at h2
      exact ⟨_, rfl, h2⟩

end Go.Proofs.YtjmjhbdlbmnllaaGreatDoor

namespace Go.Proofs.YtjmjhbdlbmnllaaGreatDoor
open Go.RowKit

theorem lone_any (kd : ByteArray) (v : Value) (x : Tk) (w : World) (hG : Sc.Glob w) (h : PReads w v [x]) (hx : x.k = 1) (hr : 0 ≤ regU 1 x.t.data.toList) :
    Calls Tryz.prog 142 #[.string kd, v] w fun r w' => r = .returned (.tuple #[opV kd (regU 1 x.t.data.toList) ⟨#[]⟩ 0, .int .i64 0]) ∧ Below w.heap.size w w' := by
  have HN := Lib.hid fun W (hb : Below w.heap.size w W) => next_any v [x] W (h.below hb (Nat.le_refl _))
  have HR := Lib.hid fun W (hb : Below w.heap.size w W) => register_word x.n x.t W (hG.below hb hG.sz)
  obtain ⟨ad, cap, rfl, _⟩ := h
  generalize regU 1 x.t.data.toList = rg at *
  obtain ⟨k, n, t⟩ := x
  simp only at hx
  subst hx
  clear hG
  unfold opV
  unfold Tk.V tokV headT at HN
  unfold tokV at HR
  simp only [List.length_singleton] at *
  have hr' : ¬ rg < 0 := by omega
  go_enter Tryz.func142, Tryz.ntmps142
  go_wp2_with fail
  refine (HN.out _ (oalloc _ _)).mono ?_
  rintro e w1 ⟨⟨v', rfl, hv⟩, hb1⟩
  obtain ⟨ad', cap', rfl, _⟩ := hv
  obtain ⟨hB1, hz1, xr⟩ := box_keep hb1
  simp only [List.tail_cons, List.length_nil]
  have HB1 := Lib.hid hB1
  have XR := Lib.hid xr
  clear hb1 hB1 xr HN
  go_wp2_with fail
  refine (HR.out _ (HB1.out.alloc HB1.out.size _)).mono ?_
  rintro e w2 ⟨rfl, hb2⟩
  have hB2 : Below w1.heap.size w1 w2 := (oalloc _ _).trans (hb2.mono (by simp))
  have xr := (hB2.block _ hz1).trans XR.out
  have HB2 := Lib.hid (HB1.out.trans (hB2.mono HB1.out.size))
  have hz2 := Nat.lt_of_lt_of_le hz1 hB2.size
  obtain ⟨⟨⟨u0, u1⟩, u2, u3⟩, ⟨f0, f1⟩, f2, f3⟩ := var4_of xr
  clear hb2 hB2 xr HR XR
  go_wp2_with fail
  exact bodyPost_ret (v := .tuple #[.agg #[.string kd, .int .i64 rg, .string ⟨#[]⟩, .int .i64 0], .int .i64 0]) (by simp [results, Tryz.results142, go_sem, u0, u1, u2, u3]) rfl ⟨rfl, (((HB2.out.setCell (Nat.le_refl _) _).setCell (Nat.le_refl _) _).setCell (Nat.le_refl _) _).setCell (Nat.le_refl _) _⟩

/-- GENERATED by gen/ea.py. An operand that is a register. -/
theorem operand_reg (gu : Nat) (v : Value) (x : Tk) (w : World) (hG : Sc.Glob w) (h : PReads w v [x]) (hx : x.k = 1) (hr : 0 ≤ regU 1 x.t.data.toList) :
    Calls Tryz.prog 99 #[.pointer (some ⟨gu, 0, none⟩), v] w fun r w' => r = .returned (.tuple #[opV ⟨#[114]⟩ (regU 1 x.t.data.toList) ⟨#[]⟩ 0, .int .i64 0]) ∧ Below w.heap.size w w' := by
  have HN := Lib.hid fun W (hb : Below w.heap.size w W) => next_any v [x] W (h.below hb (Nat.le_refl _))
  have HE := Lib.hid fun W (hb : Below w.heap.size w W) => lone_any ⟨#[114]⟩ v x W (hG.below hb hG.sz) (h.below hb (Nat.le_refl _)) hx hr
  have HR := Lib.hid fun W (hb : Below w.heap.size w W) => register_word x.n x.t W (hG.below hb hG.sz)
  have HSF : Hid (∀ s W, Calls Tryz.prog 93 #[tokV 1 x.n x.t, .string s] W fun r w' => r = .returned (.bool false) ∧ Below W.heap.size W w') := fun s W => asign_any 1 x.n x.t s W
  obtain ⟨ad, cap, rfl, _⟩ := h
  generalize regU 1 x.t.data.toList = rg at *
  obtain ⟨k, n, t⟩ := x
  simp only at hx
  subst hx
  clear hG
  unfold opV at *
  unfold Tk.V tokV headT at *
  simp only [List.length_singleton] at *
  go_enter Tryz.func99, Tryz.ntmps99
  go_wp2_with fail
  refine (HN.out _ (oalloc _ _)).mono ?_
  rintro e w1 ⟨⟨v', rfl, hv⟩, hb1⟩
  obtain ⟨ad', cap', rfl, _⟩ := id hv
  obtain ⟨hB1, hz1, xr⟩ := box_keep hb1
  simp only [List.tail_cons, List.length_nil] at *
  clear hb1 hv
  go_wp2_with fail
  refine (HSF.out _ _ ).mono ?_
  rintro e w2 ⟨rfl, hb2⟩
  obtain ⟨hB2, hz2, xt⟩ := box_keep hb2
  have t0 : w2.cell? ⟨w1.heap.size, 0, none⟩ = some (.int .i64 1) := blk_cell xt rfl
  have t1 : w2.cell? ⟨w1.heap.size, 1, none⟩ = some (.int .i64 n) := blk_cell xt rfl
  have t2 : w2.cell? ⟨w1.heap.size, 2, none⟩ = some (.string t) := blk_cell xt rfl
  replace xr := (hB2.block _ (by omega)).trans xr
  have HB := Lib.hid (hB1.trans (hB2.mono (by omega)))
  clear hb2 hB2 hB1
  go_wp2_with fail
  refine (HSF.out _ _ ).mono ?_
  rintro e w3 ⟨rfl, hb3⟩
  replace xt := (hb3.block _ (by omega)).trans xt
  replace xr := (hb3.block _ (by omega)).trans xr
  replace t0 := (hb3.cell (by show w1.heap.size < w2.heap.size; omega)).trans t0
  replace t1 := (hb3.cell (by show w1.heap.size < w2.heap.size; omega)).trans t1
  replace t2 := (hb3.cell (by show w1.heap.size < w2.heap.size; omega)).trans t2
  replace HB := Lib.hid (HB.out.trans (hb3.mono (by omega)))
  have hz3 : w1.heap.size < w3.heap.size := Nat.lt_of_lt_of_le (by omega) hb3.size
  clear hb3
  go_wp2_with fail
  refine (HSF.out _ _ ).mono ?_
  rintro e w4 ⟨rfl, hb4⟩
  replace xt := (hb4.block _ (by omega)).trans xt
  replace xr := (hb4.block _ (by omega)).trans xr
  replace t0 := (hb4.cell (by show w1.heap.size < w3.heap.size; omega)).trans t0
  replace t1 := (hb4.cell (by show w1.heap.size < w3.heap.size; omega)).trans t1
  replace t2 := (hb4.cell (by show w1.heap.size < w3.heap.size; omega)).trans t2
  replace HB := Lib.hid (HB.out.trans (hb4.mono (by omega)))
  have hz4 : w1.heap.size < w4.heap.size := Nat.lt_of_lt_of_le (by omega) hb4.size
  clear hb4
  go_wp2_with fail
  refine (HR.out _ HB.out).mono ?_
  rintro e w5 ⟨rfl, hb5⟩
  replace xt := (hb5.block _ (by omega)).trans xt
  replace xr := (hb5.block _ (by omega)).trans xr
  replace t0 := (hb5.cell (by show w1.heap.size < w4.heap.size; omega)).trans t0
  replace t1 := (hb5.cell (by show w1.heap.size < w4.heap.size; omega)).trans t1
  replace t2 := (hb5.cell (by show w1.heap.size < w4.heap.size; omega)).trans t2
  replace HB := Lib.hid (HB.out.trans (hb5.mono (by omega)))
  have hz5 : w1.heap.size < w5.heap.size := Nat.lt_of_lt_of_le (by omega) hb5.size
  clear hb5
  have XR := Lib.hid xr
  clear xr xt t0 t1 t2
  go_wp2_with fail
  refine (HE.out _ HB.out).mono ?_
  rintro e w6 ⟨rfl, hb6⟩
  obtain ⟨⟨⟨u0, u1⟩, u2, u3⟩, ⟨f0, f1⟩, f2, f3⟩ := var4_of ((hb6.block _ (by omega)).trans XR.out)
  have hz6 : w.heap.size < w6.heap.size := Nat.lt_of_lt_of_le (by omega) hb6.size
  replace HB := Lib.hid (HB.out.trans (hb6.mono (by omega)))
  clear hb6
  go_wp2_with fail
  exact bodyPost_ret (v := .tuple #[.agg #[.string ⟨#[114]⟩, .int .i64 rg, .string ⟨#[]⟩, .int .i64 0], .int .i64 0]) (by simp [results, Tryz.results99, go_sem, u0, u1, u2, u3]) rfl ⟨rfl, (((HB.out.setCell (Nat.le_refl _) _).setCell (Nat.le_refl _) _).setCell (Nat.le_refl _) _).setCell (Nat.le_refl _) _⟩

/-- An operand that is a number, '#' ahead of it. -/
theorem operand_num (gu : Nat) (v : Value) (sn : Int) (x : Tk) (nm : ByteArray) (n : Int) (hk : AtomK x.k x.n x.t nm n) (w : World) (hL : Xp.KLaid w) (h : PReads w v [⟨3, sn, ⟨#[35]⟩⟩, x]) (c0 : w.cell? ⟨gu, 0, none⟩ = some (.slice none 0 0)) :
    Calls Tryz.prog 99 #[.pointer (some ⟨gu, 0, none⟩), v] w fun r w' => r = .returned (.tuple #[opV ⟨#[35]⟩ 0 nm n, .int .i64 0]) ∧ Below w.heap.size w w' := by
  have hg : gu < w.heap.size := World.block_lt_of_cell? w _ c0
  have HN := Lib.hid fun W (hb : Below w.heap.size w W) => next_any v [⟨3, sn, ⟨#[35]⟩⟩, x] W (h.below hb (Nat.le_refl _))
  have HE0 := Lib.hid fun v' W (hb : Below w.heap.size w W) (hv : PReads W v' [x]) => aexpr_atom gu ⟨#[35]⟩ v' x nm n hk W (KL.below hL hb) hv (by rw [hb.cell (by exact hg)]; exact c0)
  have HST : Hid (∀ W, Calls Tryz.prog 93 #[tokV 3 sn ⟨#[35]⟩, .string ⟨#[35]⟩] W fun r w' => r = .returned (.bool true) ∧ Below W.heap.size W w') := fun W => by
    have := asign_any 3 sn ⟨#[35]⟩ ⟨#[35]⟩ W
    rwa [show ((3 : Int) == 3 && (⟨#[35]⟩ : ByteArray).toList == (⟨#[35]⟩ : ByteArray).toList) = true by simp] at this
  obtain ⟨ad, cap, rfl, _⟩ := h
  clear hL hk
  unfold opV at *
  unfold Tk.V tokV headT at *
  simp only [List.length_cons, List.length_nil] at *
  go_enter Tryz.func99, Tryz.ntmps99
  go_wp2_with fail
  refine (HN.out _ (oalloc _ _)).mono ?_
  rintro e w1 ⟨⟨v', rfl, hv⟩, hb1⟩
  obtain ⟨ad', cap', rfl, _⟩ := id hv
  obtain ⟨hB1, hz1, xr⟩ := box_keep hb1
  simp only [List.tail_cons, List.length_singleton] at *
  have HPV := Lib.hid hv
  have HBV := Lib.hid hb1
  clear hb1 hv
  go_wp2_with fail
  refine (HST.out _).mono ?_
  rintro e w2 ⟨rfl, hb2⟩
  obtain ⟨hB2, hz2, xt⟩ := box_keep hb2
  have t0 : w2.cell? ⟨w1.heap.size, 0, none⟩ = some (.int .i64 3) := blk_cell xt rfl
  have t1 : w2.cell? ⟨w1.heap.size, 1, none⟩ = some (.int .i64 sn) := blk_cell xt rfl
  have t2 : w2.cell? ⟨w1.heap.size, 2, none⟩ = some (.string ⟨#[35]⟩) := blk_cell xt rfl
  replace xr := (hB2.block _ (by omega)).trans xr
  have HB := Lib.hid (hB1.trans (hB2.mono (by omega)))
  replace HBV := Lib.hid (HBV.out.trans (hB2.mono HBV.out.size))
  clear hb2 hB2 hB1
  have XR := Lib.hid xr
  clear xr xt
  go_wp2_with fail
  refine (HE0.out _ _ HB.out (HPV.out.below HBV.out (Nat.le_refl _))).mono ?_
  rintro e w6 ⟨rfl, hb6⟩
  obtain ⟨⟨⟨u0, u1⟩, u2, u3⟩, ⟨f0, f1⟩, f2, f3⟩ := var4_of ((hb6.block _ (by omega)).trans XR.out)
  have hz6 : w.heap.size < w6.heap.size := Nat.lt_of_lt_of_le (by omega) hb6.size
  replace HB := Lib.hid (HB.out.trans (hb6.mono (by omega)))
  clear hb6
  go_wp2_with fail
  exact bodyPost_ret (v := .tuple #[.agg #[.string ⟨#[35]⟩, .int .i64 0, .string nm, .int .i64 n], .int .i64 0]) (by simp [results, Tryz.results99, go_sem, u0, u1, u2, u3]) rfl ⟨rfl, (((HB.out.setCell (Nat.le_refl _) _).setCell (Nat.le_refl _) _).setCell (Nat.le_refl _) _).setCell (Nat.le_refl _) _⟩

/-- An operand that is a value of a pool. -/
theorem operand_pool (gu : Nat) (v : Value) (sn : Int) (x : Tk) (nm : ByteArray) (n : Int) (hk : AtomK x.k x.n x.t nm n) (w : World) (hL : Xp.KLaid w) (h : PReads w v [⟨3, sn, ⟨#[61]⟩⟩, x]) (c0 : w.cell? ⟨gu, 0, none⟩ = some (.slice none 0 0)) :
    Calls Tryz.prog 99 #[.pointer (some ⟨gu, 0, none⟩), v] w fun r w' => r = .returned (.tuple #[opV ⟨#[61]⟩ 0 nm n, .int .i64 0]) ∧ Below w.heap.size w w' := by
  have hg : gu < w.heap.size := World.block_lt_of_cell? w _ c0
  have HN := Lib.hid fun W (hb : Below w.heap.size w W) => next_any v [⟨3, sn, ⟨#[61]⟩⟩, x] W (h.below hb (Nat.le_refl _))
  have HE0 := Lib.hid fun v' W (hb : Below w.heap.size w W) (hv : PReads W v' [x]) => aexpr_atom gu ⟨#[61]⟩ v' x nm n hk W (KL.below hL hb) hv (by rw [hb.cell (by exact hg)]; exact c0)
  have HST : Hid (∀ W, Calls Tryz.prog 93 #[tokV 3 sn ⟨#[61]⟩, .string ⟨#[61]⟩] W fun r w' => r = .returned (.bool true) ∧ Below W.heap.size W w') := fun W => by
    have := asign_any 3 sn ⟨#[61]⟩ ⟨#[61]⟩ W
    rwa [show ((3 : Int) == 3 && (⟨#[61]⟩ : ByteArray).toList == (⟨#[61]⟩ : ByteArray).toList) = true by simp] at this
  have HSF : Hid (∀ W, Calls Tryz.prog 93 #[tokV 3 sn ⟨#[61]⟩, .string ⟨#[35]⟩] W fun r w' => r = .returned (.bool false) ∧ Below W.heap.size W w') := fun W => by
    have := asign_any 3 sn ⟨#[61]⟩ ⟨#[35]⟩ W
    rwa [show ((3 : Int) == 3 && (⟨#[61]⟩ : ByteArray).toList == (⟨#[35]⟩ : ByteArray).toList) = false by rw [ByteArray.toList_eq, ByteArray.toList_eq]; decide] at this
  obtain ⟨ad, cap, rfl, _⟩ := h
  clear hL hk
  unfold opV at *
  unfold Tk.V tokV headT at *
  simp only [List.length_cons, List.length_nil] at *
  go_enter Tryz.func99, Tryz.ntmps99
  go_wp2_with fail
  refine (HN.out _ (oalloc _ _)).mono ?_
  rintro e w1 ⟨⟨v', rfl, hv⟩, hb1⟩
  obtain ⟨ad', cap', rfl, _⟩ := id hv
  obtain ⟨hB1, hz1, xr⟩ := box_keep hb1
  simp only [List.tail_cons, List.length_singleton] at *
  have HPV := Lib.hid hv
  have HBV := Lib.hid hb1
  clear hb1 hv
  go_wp2_with fail
  refine (HSF.out _).mono ?_
  rintro e w2 ⟨rfl, hb2⟩
  obtain ⟨hB2, hz2, xt⟩ := box_keep hb2
  have t0 : w2.cell? ⟨w1.heap.size, 0, none⟩ = some (.int .i64 3) := blk_cell xt rfl
  have t1 : w2.cell? ⟨w1.heap.size, 1, none⟩ = some (.int .i64 sn) := blk_cell xt rfl
  have t2 : w2.cell? ⟨w1.heap.size, 2, none⟩ = some (.string ⟨#[61]⟩) := blk_cell xt rfl
  replace xr := (hB2.block _ (by omega)).trans xr
  have HB := Lib.hid (hB1.trans (hB2.mono (by omega)))
  replace HBV := Lib.hid (HBV.out.trans (hB2.mono HBV.out.size))
  clear hb2 hB2 hB1
  go_wp2_with fail
  refine (HST.out _).mono ?_
  rintro e w3 ⟨rfl, hb3⟩
  replace xt := (hb3.block _ (by omega)).trans xt
  replace xr := (hb3.block _ (by omega)).trans xr
  replace t0 := (hb3.cell (by show w1.heap.size < w2.heap.size; omega)).trans t0
  replace t1 := (hb3.cell (by show w1.heap.size < w2.heap.size; omega)).trans t1
  replace t2 := (hb3.cell (by show w1.heap.size < w2.heap.size; omega)).trans t2
  replace HB := Lib.hid (HB.out.trans (hb3.mono (by omega)))
  replace HBV := Lib.hid (HBV.out.trans (hb3.mono HBV.out.size))
  have hz3 : w1.heap.size < w3.heap.size := Nat.lt_of_lt_of_le (by omega) hb3.size
  clear hb3
  have XR := Lib.hid xr
  clear xr xt
  go_wp2_with fail
  refine (HE0.out _ _ HB.out (HPV.out.below HBV.out (Nat.le_refl _))).mono ?_
  rintro e w6 ⟨rfl, hb6⟩
  obtain ⟨⟨⟨u0, u1⟩, u2, u3⟩, ⟨f0, f1⟩, f2, f3⟩ := var4_of ((hb6.block _ (by omega)).trans XR.out)
  have hz6 : w.heap.size < w6.heap.size := Nat.lt_of_lt_of_le (by omega) hb6.size
  replace HB := Lib.hid (HB.out.trans (hb6.mono (by omega)))
  clear hb6
  go_wp2_with fail
  exact bodyPost_ret (v := .tuple #[.agg #[.string ⟨#[61]⟩, .int .i64 0, .string nm, .int .i64 n], .int .i64 0]) (by simp [results, Tryz.results99, go_sem, u0, u1, u2, u3]) rfl ⟨rfl, (((HB.out.setCell (Nat.le_refl _) _).setCell (Nat.le_refl _) _).setCell (Nat.le_refl _) _).setCell (Nat.le_refl _) _⟩

end Go.Proofs.YtjmjhbdlbmnllaaGreatDoor
