/- expr's Part: one token added. expr's Part: a number, or a name, added. expr's Add of one token; Macro's expression and First of a text of one token. asm: operands. asm: all operands of a line. asm: lines without labels; an item added. asm: a unit's items in memory; numbers kept. asm: lines without labels. -/
import Derived.Test.YtgjmbjahgcndnaaGreatDoorPut28
import Derived.Test.YtgjmbjahgcndnaaGreatDoorPut13
import Derived.Handy
import Derived.Test.YtgjmbjahgcndnaaGreatDoorPut29
import Derived.Test.YtgjmbjahgcndnaaGreatDoorPut30
namespace Go.Proofs.YtgjmbjahgcndnaaGreatDoor
open Go.RowKit

/-- What a box that was made just ahead of a call holds behind it. -/
theorem box_keep {w w1 : World} {cs : Array Value} {t : TypeId} (hb : Below (w.alloc (.cells cs t)).heap.size (w.alloc (.cells cs t)) w1) :
    Below w.heap.size w w1 ∧ w.heap.size < w1.heap.size ∧ w1.heap[w.heap.size]? = some (.cells cs t (0, 0)) := by
  refine ⟨Below.trans (oalloc w _) (hb.mono (by simp)), Nat.lt_of_lt_of_le (by simp) hb.size, ?_⟩
  rw [hb.block _ (by simp)]
  exact new_at _ _ rfl

theorem put_plain (g q : Nat) (b : Bool) (ev : Value) (u : Bool) (e : Int) (nm : ByteArray) (n : Int) (w : World) (h : PR w g q ⟨#[]⟩ b ev u e false ⟨#[]⟩ 0) :
    Calls Tryz.prog 255 #[.pointer (some ⟨g, 0, none⟩), .agg #[.string nm, .int .i64 n]] w fun r w' => r = .returned (.tuple #[]) ∧ PR w' g q ⟨#[]⟩ true ev u e true nm n ∧ F2 g q w w' := by
  have c0 : w.cell? ⟨g, 0, none⟩ = some (.string ⟨#[]⟩) := blk_cell h.pt rfl
  have hq := blk_lt h.pt
  have HW := Lib.hid (within_any ⟨#[]⟩ (.inl rfl))
  have HP := Lib.hid fun W (hb : Below w.heap.size w W) => putWhole_any g q ⟨#[]⟩ (.inl rfl) b ev u e nm n W (h.go hb)
  clear h
  go_enter Tryz.func255, Tryz.ntmps255
  go_wp2_with (go_at_call 258; refine (HW.out _).mono ?_; rintro e w1 ⟨rfl, rfl⟩)
  refine wp_loop_rounds 1 ?_
  rw [rounds_succ]
  go_wp2_with (go_at_call 256; refine (HP.out _ (oalloc w _)).mono ?_; rintro e w2 ⟨rfl, hp2, hb2⟩)
  exact bodyPost_end (v := .tuple #[]) (by simp [results, Tryz.results255, go_sem]) rfl ⟨rfl, hp2, (F2.below (oalloc _ _)).trans hb2⟩

/-- A token as stage 3 has it. -/
def xtok (k n : Int) (t : ByteArray) : Xp.Tok := ⟨k, n, t.data.toList⟩
theorem leaf_num (n : Int) (t : ByteArray) (w : World) : Calls Tryz.prog 253 #[tokV 2 n t] w fun r w' => r = .returned (.tuple #[.agg #[.int .i64 1, .int .i64 (wrap32 n), .string ⟨#[]⟩, .slice none 0 0], .int .i64 0]) ∧ Below w.heap.size w w' := by
  have := Xp.leaf_any (xtok 2 n t) w
  simpa [xtok, tokV, Xp.leafE, Xp.leafV, Xp.exV, Xp.Ex.kind, Xp.Ex.n, Xp.Ex.name, Xp.sgn] using this
theorem leaf_name (n : Int) (t : ByteArray) (w : World) (h : Xp.nameR t.data.toList = true) : Calls Tryz.prog 253 #[tokV 1 n t] w fun r w' => r = .returned (.tuple #[.agg #[.int .i64 2, .int .i64 0, .string t, .slice none 0 0], .int .i64 0]) ∧ Below w.heap.size w w' := by
  have := Xp.leaf_any (xtok 1 n t) w
  simpa [xtok, tokV, Xp.leafE, Xp.leafV, Xp.exV, Xp.Ex.kind, Xp.Ex.n, Xp.Ex.name, Xp.sgn, h] using this

theorem makeV0 (w : World) : (Instr.makeSlice 182 (.int .i64 0) (.int .i64 0)).run Tryz.prog w = .ok (.slice (some ⟨w.heap.size, 0, none⟩) 0 0) (w.alloc (.cells #[] 201)) := by kernel_rfl

theorem wrap32_two (n : Int) : wrap32 (wrap32 n) = wrap32 n := by unfold wrap32; omega

theorem whole_num (k n : Int) (hk : k = 1 ∨ k = 2) (nm : ByteArray) (w : World) (hL : Xp.KLaid w) : Calls Tryz.prog 263 #[.agg #[.int .i64 k, .int .i64 n, .string nm, .slice none 0 0]] w fun e w' => e = .returned (.bool true) ∧ Below w.heap.size w w' := by
  have := Xp.whole_any k n nm.data.toList none 0 0 w hL
  rcases hk with rfl | rfl <;> simpa [Xp.kKids] using this

theorem eval_num (n : Int) (w : World) (hL : Xp.KLaid w) : Calls Tryz.prog 254 #[.agg #[.int .i64 1, .int .i64 n, .string ⟨#[]⟩, .slice none 0 0], .slice none 0 0] w fun r w' => r = .returned (.tuple #[.agg #[.string ⟨#[]⟩, .int .i64 (wrap32 n)], .int .i64 0]) ∧ Below w.heap.size w w' := by
  have hm := makeV0
  have HW := Lib.hid fun W (hb : Below w.heap.size w W) => whole_num 1 n (.inl rfl) ⟨#[]⟩ W (hL.below hb hL.sz)
  have HN := Lib.hid fun W => Xp.number_any n W
  go_enter Tryz.func254, Tryz.ntmps254
  go_wp2_with fail
  refine wp_loop_rounds 1 ?_
  rw [rounds_succ]
  go_wp2_with fail
  refine (HW.out _ (by go_grown)).mono ?_
  rintro e w1 ⟨rfl, hb1⟩
  have HB1 : Hid (Below w.heap.size w w1) := by
    refine Below.trans ?_ (hb1.mono (by simp; omega))
    go_grown
  have hz1 : w.heap.size + 3 ≤ w1.heap.size := Nat.le_trans (by simp) hb1.size
  have x0 : w1.cell? ⟨w.heap.size, 0, none⟩ = some (.int .i64 1) := by rw [hb1.cell (by simp; omega)]; simp [go_sem]
  have x1 : w1.cell? ⟨w.heap.size, 1, none⟩ = some (.int .i64 n) := by rw [hb1.cell (by simp; omega)]; simp [go_sem]
  have HR : Hid (w1.heap[w.heap.size + 1]? = some (.cells #[.string ⟨#[]⟩, .int .i64 0] 201 (0, 0))) := by
    unfold Hid
    rw [hb1.block _ (by simp), old2 _ _ (by simp)]
    exact new_at _ _ (by simp)
  clear hb1 HW hm
  go_wp2_with (go_at_call 267; refine (HN.out _).mono ?_; rintro e w2 ⟨rfl, hb2⟩; obtain ⟨⟨y0, y1⟩, f0, f1⟩ := Xp.var2_of ((hb2.block _ (by omega)).trans HR.out); have HB2 := Lib.hid (HB1.out.trans (hb2.mono (by omega))); clear hb2)
  exact bodyPost_ret (v := .tuple #[.agg #[.string ⟨#[]⟩, .int .i64 (wrap32 n)], .int .i64 0]) (by simp [results, Tryz.results254, go_sem, y0, y1, Xp.sgn]) rfl ⟨rfl, Xp.bput2 HB2.out (Nat.le_succ _)⟩

theorem eval_name (nm : ByteArray) (w : World) (hL : Xp.KLaid w) : Calls Tryz.prog 254 #[.agg #[.int .i64 2, .int .i64 0, .string nm, .slice none 0 0], .slice none 0 0] w fun r w' => r = .returned (.tuple #[.agg #[.string nm, .int .i64 0], .int .i64 0]) ∧ Below w.heap.size w w' := by
  have hm := makeV0
  have HW := Lib.hid fun W (hb : Below w.heap.size w W) => whole_num 2 0 (.inr rfl) nm W (hL.below hb hL.sz)
  have HN : Hid (∀ W, Calls Tryz.prog 266 #[.string nm, .slice none 0 0] W fun e w' => e = .returned (.agg #[.string nm, .int .i64 0]) ∧ Below W.heap.size W w') := fun W => by
    have := Xp.named_any nm.data.toList (.slice none 0 0) [] W (Xp.QReads.nil W)
    simpa [Xp.vaV, Xp.namedR, Xp.lookE] using this
  go_enter Tryz.func254, Tryz.ntmps254
  go_wp2_with fail
  refine wp_loop_rounds 1 ?_
  rw [rounds_succ]
  go_wp2_with fail
  refine (HW.out _ (by go_grown)).mono ?_
  rintro e w1 ⟨rfl, hb1⟩
  have HB1 : Hid (Below w.heap.size w w1) := by
    refine Below.trans ?_ (hb1.mono (by simp; omega))
    go_grown
  have hz1 : w.heap.size + 3 ≤ w1.heap.size := Nat.le_trans (by simp) hb1.size
  have x0 : w1.cell? ⟨w.heap.size, 0, none⟩ = some (.int .i64 2) := by rw [hb1.cell (by simp; omega)]; simp [go_sem]
  have x2 : w1.cell? ⟨w.heap.size, 2, none⟩ = some (.string nm) := by rw [hb1.cell (by simp; omega)]; simp [go_sem]
  have HR : Hid (w1.heap[w.heap.size + 1]? = some (.cells #[.string ⟨#[]⟩, .int .i64 0] 201 (0, 0))) := by
    unfold Hid
    rw [hb1.block _ (by simp), old2 _ _ (by simp)]
    exact new_at _ _ (by simp)
  clear hb1 HW hm
  go_wp2_with (go_at_call 266; refine (HN.out _).mono ?_; rintro e w2 ⟨rfl, hb2⟩; obtain ⟨⟨y0, y1⟩, f0, f1⟩ := Xp.var2_of ((hb2.block _ (by omega)).trans HR.out); have HB2 := Lib.hid (HB1.out.trans (hb2.mono (by omega))); clear hb2)
  exact bodyPost_ret (v := .tuple #[.agg #[.string nm, .int .i64 0], .int .i64 0]) (by simp [results, Tryz.results254, go_sem, y0, y1]) rfl ⟨rfl, Xp.bput2 HB2.out (Nat.le_succ _)⟩

theorem fold_one (p : Value) (g : Nat) (s : Int) (w : World) : Calls Tryz.prog 259 #[p, .slice (some ⟨g, 0, none⟩) 1 1, .int .i64 s] w fun r w' => r = .returned (.slice (some ⟨g, 0, none⟩) 1 1) ∧ w' = w := by
  go_enter Tryz.func259, Tryz.ntmps259
  go_wp2_with fail
  refine wp_loop_rounds 1 ?_
  rw [rounds_succ]
  go_wp2_with fail
  go_ret
  exact ⟨rfl, rfl⟩

theorem total_one (p : Value) (b : Bool) (nm : ByteArray) (n : Int) (w : World) : Calls Tryz.prog 245 #[p, .agg #[.bool b, .string nm, .int .i64 n, .slice none 0 0, .int .i64 0]] w fun r w' => r = .returned (.agg #[.string nm, .int .i64 n]) ∧ Below w.heap.size w w' := by
  go_enter Tryz.func245, Tryz.ntmps245
  go_wp2_with fail
  refine wp_loop_rounds 1 ?_
  rw [rounds_succ]
  go_wp2_with (go_at_call 259; refine (fold_one _ _ _ _).mono ?_; rintro e w2 ⟨rfl, rfl⟩)
  exact bodyPost_ret (v := .agg #[.string nm, .int .i64 n]) (by simp [results, Tryz.results245, go_sem]) rfl ⟨rfl, by go_grown⟩

theorem first_one (g q : Nat) (ev : Value) (nm : ByteArray) (n : Int) (e : Int) (w : World) (h : PR w g q ⟨#[]⟩ true ev false e true nm n) :
    Calls Tryz.prog 223 #[.pointer (some ⟨g, 0, none⟩)] w fun r w' => r = .returned (.tuple #[.agg #[.string nm, .int .i64 n], .int .i64 0]) ∧ Below w.heap.size w w' := by
  have c0 : w.cell? ⟨g, 0, none⟩ = some (.string ⟨#[]⟩) := blk_cell h.pt rfl
  have c1 : w.cell? ⟨g, 1, none⟩ = some (.bool true) := blk_cell h.pt rfl
  have c4 : w.cell? ⟨g, 4, none⟩ = some (.slice (some ⟨q, 0, none⟩) 1 1) := blk_cell h.pt rfl
  have c5 : w.cell? ⟨g, 5, none⟩ = some (.bool false) := blk_cell h.pt rfl
  have d0 : w.cell? ⟨q, 0, none⟩ = some (.bool true) := blk_cell h.ch rfl
  have d1 : w.cell? ⟨q, 1, none⟩ = some (.string nm) := blk_cell h.ch rfl
  have d2 : w.cell? ⟨q, 2, none⟩ = some (.int .i64 n) := blk_cell h.ch rfl
  have d3 : w.cell? ⟨q, 3, none⟩ = some (.slice none 0 0) := blk_cell h.ch rfl
  have d4 : w.cell? ⟨q, 4, none⟩ = some (.int .i64 0) := blk_cell h.ch rfl
  have hg := blk_lt h.pt
  have hq := blk_lt h.ch
  clear h
  go_enter Tryz.func223, Tryz.ntmps223
  go_wp2_with (go_at_call 245; refine (total_one _ _ _ _ _).mono ?_; rintro e w1 ⟨rfl, hb1⟩; obtain ⟨hb2, hz1, xr⟩ := box_keep hb1; clear hb1; have x5 := (hb2.cell (by show g < w.heap.size; exact hg)).trans c5; have hg1 : g < w1.heap.size := Nat.lt_of_lt_of_le hg hb2.size; obtain ⟨⟨y0, y1⟩, f0, f1⟩ := Xp.var2_of xr; have HB2 := Lib.hid hb2; clear xr hb2)
  exact bodyPost_ret (v := .tuple #[.agg #[.string nm, .int .i64 n], .int .i64 0]) (by simp [results, Tryz.results223, go_sem, World.cell?_alloc_lt, hz1, y0, y1]) rfl ⟨rfl, (Xp.bput2 HB2.out (Nat.le_refl _)).alloc (by simp; omega) _⟩

theorem KL.below {w w' : World} (h : Xp.KLaid w) (hb : Below w.heap.size w w') : Xp.KLaid w' := h.below hb h.sz
end Go.Proofs.YtgjmbjahgcndnaaGreatDoor

namespace Go.Proofs.YtgjmbjahgcndnaaGreatDoor
open Go.RowKit

set_option maxHeartbeats 2000000 in
/-- A number where something must be. -/
theorem next_num (g q : Nat) (u : Bool) (n : Int) (t : ByteArray) (w : World) (hL : Xp.KLaid w) (h : PR w g q ⟨#[]⟩ false (.slice none 0 0) u 0 false ⟨#[]⟩ 0) :
    Calls Tryz.prog 241 #[.pointer (some ⟨g, 0, none⟩), tokV 2 n t] w fun r w' => r = .returned (.int .i64 0) ∧ PR w' g q ⟨#[]⟩ true (.slice none 0 0) u 0 true ⟨#[]⟩ (wrap32 n) ∧ F2 g q w w' := by
  have c2 : w.cell? ⟨g, 2, none⟩ = some (.slice none 0 0) := blk_cell h.pt rfl
  have hg := blk_lt h.pt
  have HK : Hid (∀ W, Below w.heap.size w W → Calls Tryz.prog 249 #[tokV 2 n t, .int .i64 1] W fun e w' => e = .returned (.int .i64 0) ∧ Below W.heap.size W w') := fun W hb => by
    have := Xp.kindOf_any (xtok 2 n t) 1 W (KL.below hL hb)
    simpa [xtok, tokV, Xp.kindT, Xp.kindFromT, Xp.signT] using this
  have HS : Hid (∀ W, Calls Tryz.prog 251 #[tokV 2 n t, .string ⟨#[40]⟩] W fun e w' => e = .returned (.bool false) ∧ Below W.heap.size W w') := fun W => by
    have := Xp.isSign_any (xtok 2 n t) ⟨#[40]⟩ W
    simpa [xtok, tokV, Xp.signT] using this
  have HF := Lib.hid fun W => leaf_num n t W
  have HE := Lib.hid fun W (hb : Below w.heap.size w W) => eval_num (wrap32 n) W (KL.below hL hb)
  have HP := Lib.hid fun W (hb : Below w.heap.size w W) => put_plain g q false (.slice none 0 0) u 0 ⟨#[]⟩ (wrap32 n) W (h.go hb)
  have HO := Lib.hid h
  try simp only [wrap32_two] at HE
  clear h hL
  unfold tokV at *
  go_enter Tryz.func241, Tryz.ntmps241
  go_wp2_with fail
  refine (HK.out _ (oalloc _ _)).mono ?_
  rintro e w1 ⟨rfl, hb1⟩
  obtain ⟨hb, hz1, xr⟩ := box_keep hb1
  clear hb1 HK
  have x0 : w1.cell? ⟨w.heap.size, 0, none⟩ = some (.int .i64 2) := blk_cell xr rfl
  have x1 : w1.cell? ⟨w.heap.size, 1, none⟩ = some (.int .i64 n) := blk_cell xr rfl
  have x2 : w1.cell? ⟨w.heap.size, 2, none⟩ = some (.string t) := blk_cell xr rfl
  have HB := Lib.hid hb
  clear hb xr
  go_wp2_with fail
  refine (HS.out _).mono ?_
  rintro e w2 ⟨rfl, hb2⟩
  replace x0 := (hb2.cell (by show w.heap.size < w1.heap.size; omega)).trans x0
  replace x1 := (hb2.cell (by show w.heap.size < w1.heap.size; omega)).trans x1
  replace x2 := (hb2.cell (by show w.heap.size < w1.heap.size; omega)).trans x2
  replace HB := Lib.hid (HB.out.trans (hb2.mono (by omega)))
  have hz2 := Nat.lt_of_lt_of_le hz1 hb2.size
  clear hb2 hz1
  go_wp2_with fail
  refine (HF.out _).mono ?_
  rintro e w3 ⟨rfl, hb3⟩
  replace HB := Lib.hid (HB.out.trans (hb3.mono (by omega)))
  have hz3 := Nat.lt_of_lt_of_le hz2 hb3.size
  have y2 := (HB.out.cell (by show g < w.heap.size; exact hg)).trans c2
  have hg3 : g < w3.heap.size := by omega
  clear hb3 hz2 x0 x1 x2
  go_wp2_with fail
  go_region_with (go_at_call 254; refine (HE.out _ (HB.out.trans (Below.drew (by go_grown)))).mono ?_; rintro e w4 ⟨rfl, hb4⟩; have HB4 : Hid (Below w.heap.size w w4) := (by refine Below.trans ?_ (hb4.mono (by go_size)); have hb := HB.out; go_grown); have hz4 : w3.heap.size < w4.heap.size := Nat.lt_of_lt_of_le (by go_size) hb4.size; first | (have zr : w4.heap[w3.heap.size + 1]? = some (.cells #[.string ⟨#[]⟩, .int .i64 0] 201 (0, 0)) := (hb4.block _ (by simp)).trans (new_at _ _ (by simp)); obtain ⟨⟨z0, z1⟩, f0, f1⟩ := Xp.var2_of zr; have hz4 := blk_lt zr; clear zr hb4) | clear hb4)
  all_goals
    go_wp2_with (go_at_call 255; refine (HP.out _ (by have hb := HB4.out; go_grown)).mono ?_; rintro e w5 ⟨rfl, hp5, hb5⟩)
    go_returns
    refine ⟨rfl, hp5, F2.trans (F2.below ?_) hb5⟩
    have hb := HB4.out
    go_grown

set_option maxHeartbeats 2000000 in
/-- A name where something must be. -/
theorem next_name (g q : Nat) (u : Bool) (n : Int) (t : ByteArray) (hn : Xp.nameR t.data.toList = true) (w : World) (hL : Xp.KLaid w) (h : PR w g q ⟨#[]⟩ false (.slice none 0 0) u 0 false ⟨#[]⟩ 0) :
    Calls Tryz.prog 241 #[.pointer (some ⟨g, 0, none⟩), tokV 1 n t] w fun r w' => r = .returned (.int .i64 0) ∧ PR w' g q ⟨#[]⟩ true (.slice none 0 0) u 0 true t 0 ∧ F2 g q w w' := by
  have c2 : w.cell? ⟨g, 2, none⟩ = some (.slice none 0 0) := blk_cell h.pt rfl
  have hg := blk_lt h.pt
  have HK : Hid (∀ W, Below w.heap.size w W → Calls Tryz.prog 249 #[tokV 1 n t, .int .i64 1] W fun e w' => e = .returned (.int .i64 0) ∧ Below W.heap.size W w') := fun W hb => by
    have := Xp.kindOf_any (xtok 1 n t) 1 W (KL.below hL hb)
    simpa [xtok, tokV, Xp.kindT, Xp.kindFromT, Xp.signT] using this
  have HS : Hid (∀ W, Calls Tryz.prog 251 #[tokV 1 n t, .string ⟨#[40]⟩] W fun e w' => e = .returned (.bool false) ∧ Below W.heap.size W w') := fun W => by
    have := Xp.isSign_any (xtok 1 n t) ⟨#[40]⟩ W
    simpa [xtok, tokV, Xp.signT] using this
  have HF := Lib.hid fun W => leaf_name n t W hn
  have HE := Lib.hid fun W (hb : Below w.heap.size w W) => eval_name t W (KL.below hL hb)
  have HP := Lib.hid fun W (hb : Below w.heap.size w W) => put_plain g q false (.slice none 0 0) u 0 t 0 W (h.go hb)
  have HO := Lib.hid h
  try simp only [wrap32_two] at HE
  clear h hL
  unfold tokV at *
  go_enter Tryz.func241, Tryz.ntmps241
  go_wp2_with fail
  refine (HK.out _ (oalloc _ _)).mono ?_
  rintro e w1 ⟨rfl, hb1⟩
  obtain ⟨hb, hz1, xr⟩ := box_keep hb1
  clear hb1 HK
  have x0 : w1.cell? ⟨w.heap.size, 0, none⟩ = some (.int .i64 1) := blk_cell xr rfl
  have x1 : w1.cell? ⟨w.heap.size, 1, none⟩ = some (.int .i64 n) := blk_cell xr rfl
  have x2 : w1.cell? ⟨w.heap.size, 2, none⟩ = some (.string t) := blk_cell xr rfl
  have HB := Lib.hid hb
  clear hb xr
  go_wp2_with fail
  refine (HS.out _).mono ?_
  rintro e w2 ⟨rfl, hb2⟩
  replace x0 := (hb2.cell (by show w.heap.size < w1.heap.size; omega)).trans x0
  replace x1 := (hb2.cell (by show w.heap.size < w1.heap.size; omega)).trans x1
  replace x2 := (hb2.cell (by show w.heap.size < w1.heap.size; omega)).trans x2
  replace HB := Lib.hid (HB.out.trans (hb2.mono (by omega)))
  have hz2 := Nat.lt_of_lt_of_le hz1 hb2.size
  clear hb2 hz1
  go_wp2_with fail
  refine (HF.out _).mono ?_
  rintro e w3 ⟨rfl, hb3⟩
  replace HB := Lib.hid (HB.out.trans (hb3.mono (by omega)))
  have hz3 := Nat.lt_of_lt_of_le hz2 hb3.size
  have y2 := (HB.out.cell (by show g < w.heap.size; exact hg)).trans c2
  have hg3 : g < w3.heap.size := by omega
  clear hb3 hz2 x0 x1 x2
  go_wp2_with fail
  go_region_with (go_at_call 254; refine (HE.out _ (HB.out.trans (Below.drew (by go_grown)))).mono ?_; rintro e w4 ⟨rfl, hb4⟩; have HB4 : Hid (Below w.heap.size w w4) := (by refine Below.trans ?_ (hb4.mono (by go_size)); have hb := HB.out; go_grown); have hz4 : w3.heap.size < w4.heap.size := Nat.lt_of_lt_of_le (by go_size) hb4.size; first | (have zr : w4.heap[w3.heap.size + 1]? = some (.cells #[.string ⟨#[]⟩, .int .i64 0] 201 (0, 0)) := (hb4.block _ (by simp)).trans (new_at _ _ (by simp)); obtain ⟨⟨z0, z1⟩, f0, f1⟩ := Xp.var2_of zr; have hz4 := blk_lt zr; clear zr hb4) | clear hb4)
  all_goals
    go_wp2_with (go_at_call 255; refine (HP.out _ (by have hb := HB4.out; go_grown)).mono ?_; rintro e w5 ⟨rfl, hp5, hb5⟩)
    go_returns
    refine ⟨rfl, hp5, F2.trans (F2.below ?_) hb5⟩
    have hb := HB4.out
    go_grown

end Go.Proofs.YtgjmbjahgcndnaaGreatDoor

namespace Go.Proofs.YtgjmbjahgcndnaaGreatDoor
open Go.RowKit

/-- A token that is an expression: a number, or a name; the value's name and number. -/
def AtomK (k n : Int) (t : ByteArray) (nm : ByteArray) (v : Int) : Prop := (k = 2 ∧ nm = ⟨#[]⟩ ∧ v = wrap32 n) ∨ (k = 1 ∧ nm = t ∧ v = 0 ∧ Xp.nameR t.data.toList = true)

theorem next_atom (g q : Nat) (u : Bool) (k n : Int) (t nm : ByteArray) (v : Int) (hk : AtomK k n t nm v) (w : World) (hL : Xp.KLaid w) (h : PR w g q ⟨#[]⟩ false (.slice none 0 0) u 0 false ⟨#[]⟩ 0) :
    Calls Tryz.prog 241 #[.pointer (some ⟨g, 0, none⟩), tokV k n t] w fun r w' => r = .returned (.int .i64 0) ∧ PR w' g q ⟨#[]⟩ true (.slice none 0 0) u 0 true nm v ∧ F2 g q w w' := by
  rcases hk with ⟨rfl, rfl, rfl⟩ | ⟨rfl, rfl, rfl, hn⟩
  · exact next_num g q u n t w hL h
  · exact next_name g q u n _ hn w hL h

theorem add_atom (g q : Nat) (u : Bool) (k n : Int) (t nm : ByteArray) (v : Int) (hk : AtomK k n t nm v) (w : World) (hL : Xp.KLaid w) (h : PR w g q ⟨#[]⟩ false (.slice none 0 0) u 0 false ⟨#[]⟩ 0) :
    Calls Tryz.prog 220 #[.pointer (some ⟨g, 0, none⟩), tokV k n t] w fun r w' => r = .returned (.tuple #[]) ∧ PR w' g q ⟨#[]⟩ true (.slice none 0 0) u 0 true nm v ∧ F2 g q w w' := by
  have c1 : w.cell? ⟨g, 1, none⟩ = some (.bool false) := blk_cell h.pt rfl
  have c6 : w.cell? ⟨g, 6, none⟩ = some (.int .i64 0) := blk_cell h.pt rfl
  have hg := blk_lt h.pt
  have HN := Lib.hid fun W (hb : Below w.heap.size w W) => next_atom g q u k n t nm v hk W (KL.below hL hb) (h.go hb)
  clear h hL hk
  unfold tokV at *
  go_enter Tryz.func220, Tryz.ntmps220
  go_wp2_with fail
  refine (HN.out _ (oalloc _ _)).mono ?_
  rintro e w1 ⟨rfl, hp1, hb1⟩
  have d6 : w1.cell? ⟨g, 6, none⟩ = some (.int .i64 0) := blk_cell hp1.pt rfl
  have f6 : w1.frozen? ⟨g, 6, none⟩ = false := blk_froz hp1.pt
  have hg1 := blk_lt hp1.pt
  have HP1 := Lib.hid hp1
  have HB1 := Lib.hid hb1
  clear hp1 hb1
  go_wp2
  refine bodyPost_end (v := .tuple #[]) (by simp [results, Tryz.results220, go_sem]) rfl ⟨rfl, ?_, ?_⟩
  · exact HP1.out.go (same_set HP1.out.pt rfl)
  · exact ((F2.below (oalloc _ _)).trans HB1.out).trans (F2.below (same_set HP1.out.pt rfl))

theorem rread_no (gr go' b o len cap : Nat) (gp : Nat) (w : World) (c0 : w.cell? ⟨gr, go', none⟩ = some (.slice (some ⟨b, o, none⟩) (len + 1) cap)) (c1 : w.cell? ⟨gr, go' + 1, none⟩ = some (.pointer (some ⟨gp, 0, none⟩))) (c6 : w.cell? ⟨gp, 6, none⟩ = some (.int .i64 0)) :
    Calls Tryz.prog 219 #[.pointer (some ⟨gr, go', none⟩)] w fun r w' => r = .returned (.bool false) ∧ w = w' := by
  have h1 : ((len : Int) + 1 == 0) = false := by simp; omega
  go_enter Tryz.func219, Tryz.ntmps219
  go_wp2_with (go_at_call 225; refine (err_any gp 0 _ c6).mono ?_; rintro e w' ⟨rfl, rfl⟩)
  go_ret
  exact ⟨rfl, rfl⟩
theorem rread_yes (gr go' cap : Nat) (ad : Option Addr) (w : World) (c0 : w.cell? ⟨gr, go', none⟩ = some (.slice ad 0 cap)) :
    Calls Tryz.prog 219 #[.pointer (some ⟨gr, go', none⟩)] w fun r w' => r = .returned (.bool true) ∧ w = w' := by
  go_enter Tryz.func219, Tryz.ntmps219
  go_wp2_with fail
  go_ret
  exact ⟨rfl, rfl⟩

set_option maxHeartbeats 2000000 in
theorem expression_atom (b o cap : Nat) (k n : Int) (t nm : ByteArray) (v : Int) (hk : AtomK k n t nm v) (w : World) (hL : Xp.KLaid w) (hb : b < w.heap.size) (_ : cap + 1 ≤ maxLen)
    (c0 : w.cell? ⟨b, o, none⟩ = some (.int .i64 k)) (c1 : w.cell? ⟨b, o + 1, none⟩ = some (.int .i64 n)) (c2 : w.cell? ⟨b, o + 2, none⟩ = some (.string t)) (c3 : w.cell? ⟨b, o + 3, none⟩ = some (.pointer none)) :
    Calls Tryz.prog 187 #[.slice (some ⟨b, o, none⟩) 1 (cap + 1), .slice none 0 0] w fun r w' => (∃ g q, r = .returned (.pointer (some ⟨g, 0, none⟩)) ∧ PR w' g q ⟨#[]⟩ true (.slice none 0 0) false 0 true nm v) ∧ Below w.heap.size w w' := by
  have hmm : ∀ w, (Instr.makeMap 318 none).run Tryz.prog w = .ok (.map (some w.heap.size)) (w.alloc (.map #[] 0)) := fun w => rfl
  have HL := Lib.hid hL
  clear hL
  go_enter Tryz.func187, Tryz.ntmps187
  go_wp2_with fail
  refine (from_any ⟨#[]⟩ false none 0 0 _).mono ?_
  rintro e w1 ⟨⟨g, q, rfl, hg, hq, hp1⟩, hb1⟩
  have hB1 : Below w.heap.size w w1 := Below.trans (by go_grown) (hb1.mono (by go_size))
  have d0 := (hB1.cell (by show b < w.heap.size; exact hb)).trans c0
  have d1 := (hB1.cell (by show b < w.heap.size; exact hb)).trans c1
  have d2 := (hB1.cell (by show b < w.heap.size; exact hb)).trans c2
  have d3 := (hB1.cell (by show b < w.heap.size; exact hb)).trans c3
  have hb' : b < w1.heap.size := Nat.lt_of_lt_of_le hb hB1.size
  have HP1 := Lib.hid hp1
  have HB1 := Lib.hid hB1
  have hg1 := blk_lt hp1.pt
  have hq1 := blk_lt hp1.ch
  simp only [World.size_alloc] at hg hq
  clear hb1 hB1 hp1
  go_wp2_with fail
  have hr2 : (w1.alloc (.cells #[.slice (some ⟨b, o, none⟩) 1 (cap + 1), .pointer (some ⟨g, 0, none⟩), .pointer none, .string ⟨#[]⟩, .bool false] 325)).heap[w1.heap.size]? = some (.cells #[.slice (some ⟨b, o, none⟩) 1 (cap + 1), .pointer (some ⟨g, 0, none⟩), .pointer none, .string ⟨#[]⟩, .bool false] 325 (0, 0)) := new_at _ _ rfl
  have hb2 : Below w1.heap.size w1 (w1.alloc (.cells #[.slice (some ⟨b, o, none⟩) 1 (cap + 1), .pointer (some ⟨g, 0, none⟩), .pointer none, .string ⟨#[]⟩, .bool false] 325)) := oalloc _ _
  generalize w1.alloc (.cells #[.slice (some ⟨b, o, none⟩) 1 (cap + 1), .pointer (some ⟨g, 0, none⟩), .pointer none, .string ⟨#[]⟩, .bool false] 325) = W2 at *
  replace d0 := (hb2.cell (by show b < w1.heap.size; exact hb')).trans d0
  replace d1 := (hb2.cell (by show b < w1.heap.size; exact hb')).trans d1
  replace d2 := (hb2.cell (by show b < w1.heap.size; exact hb')).trans d2
  replace d3 := (hb2.cell (by show b < w1.heap.size; exact hb')).trans d3
  have hz2 := blk_lt hr2
  have x0 : W2.cell? ⟨w1.heap.size, 0, none⟩ = some (.slice (some ⟨b, o, none⟩) 1 (cap + 1)) := blk_cell hr2 rfl
  have x1 : W2.cell? ⟨w1.heap.size, 1, none⟩ = some (.pointer (some ⟨g, 0, none⟩)) := blk_cell hr2 rfl
  have hpt := (HP1.out.go hb2).pt
  have x6 : W2.cell? ⟨g, 6, none⟩ = some (.int .i64 0) := blk_cell hpt rfl
  have HR2 := Lib.hid hr2
  have HB2 : Hid (Below w.heap.size w W2) := HB1.out.trans (hb2.mono (by have := HB1.out.size; omega))
  have HRD := Lib.hid (rread_no w1.heap.size 0 b o 0 (cap + 1) g W2 x0 x1 x6)
  have HAD := Lib.hid fun W (hb : Below W2.heap.size W2 W) => add_atom g q false k n t nm v hk W (KL.below (KL.below HL.out HB2.out) hb) ((HP1.out.go hb2).go hb)
  have hsz := HB1.out.size
  clear hr2 hb2 hpt HB1 c0 c1 c2 c3 hk HL
  unfold tokV at HAD
  refine wp_loop_rounds 2 ?_
  rw [rounds_succ]
  obtain ⟨ad', HA'⟩ : ∃ ad' : Option Addr, Hid ((if cap = 0 then some (⟨b, o, none⟩ : Addr) else some ⟨b, o + 4, none⟩) = ad') := ⟨_, Lib.hid rfl⟩
  go_wp2_with (go_at_call 219; refine HRD.out.mono ?_; rintro e w' ⟨rfl, rfl⟩)
  go_region_with (go_at_call 220; refine (HAD.out _ (Below.refl _ _).drew).mono ?_; rintro e w3 ⟨rfl, hp3, hf3⟩; have hr3 := (hf3.block _ hz2 (by omega) (by omega)).trans HR2.out; have y0 : w3.cell? ⟨w1.heap.size, 0, none⟩ = some (.slice (some ⟨b, o, none⟩) 1 (cap + 1)) := blk_cell hr3 rfl; have y1 : w3.frozen? ⟨w1.heap.size, 0, none⟩ = false := blk_froz hr3; have y2 : w3.cell? ⟨w1.heap.size, 1, none⟩ = some (.pointer (some ⟨g, 0, none⟩)) := blk_cell hr3 rfl; have hz3 := blk_lt hr3; have HR3 := Lib.hid hr3; have HP3 := Lib.hid hp3; have HF3 := Lib.hid hf3; clear hr3 hp3 hf3)
  all_goals go_wp2_with fail
  all_goals
    rw [rounds_succ]
    go_wp2_with (go_at_call 219; refine (rread_yes _ _ _ _ _ (blk_cell (blk_set HR3.out) rfl)).mono ?_; rintro e w' ⟨rfl, rfl⟩)
    go_returns
    refine ⟨⟨g, q, rfl, ?_⟩, ?_⟩
    · exact ⟨by rw [Below.heap_setCell _ _ _ _ (by show g ≠ w1.heap.size; omega)]; exact HP3.out.pt, by rw [Below.heap_setCell _ _ _ _ (by show q ≠ w1.heap.size; omega)]; exact HP3.out.ch⟩
    · exact (HB2.out.trans ((Below.refl _ _).drew.trans (HF3.out.to (by omega) (by omega) (by show w.heap.size ≤ W2.heap.size; omega)))).setCell (by omega) _

/-- The value of a text of one token that is an expression. -/
theorem mfirst_atom (v : Value) (x : Tk) (nm : ByteArray) (n : Int) (hk : AtomK x.k x.n x.t nm n) (w : World) (hL : Xp.KLaid w) (h : PReads w v [x]) :
    Calls Tryz.prog 193 #[v, .slice none 0 0] w fun r w' => r = .returned (.tuple #[.agg #[.string nm, .int .i64 n], .bool true, .int .i64 0]) ∧ Below w.heap.size w w' := by
  obtain ⟨ad, cap, rfl, hc, hm, h⟩ := h
  obtain ⟨b, o, rfl, hb, hcell⟩ := h (by simp)
  have c := hcell 0 (by simp)
  simp only [Nat.zero_mul, Nat.add_zero, List.getElem_cons_zero] at c
  obtain ⟨c0, c1, c2, c3⟩ := c
  obtain ⟨cap, rfl⟩ : ∃ k, cap = k + 1 := ⟨cap - 1, by simp at hc; omega⟩
  have HE := Lib.hid fun W (hb' : Below w.heap.size w W) => expression_atom b o cap x.k x.n x.t nm n hk W (KL.below hL hb') (Nat.lt_of_lt_of_le hb hb'.size) hm (by rw [hb'.cell (by exact hb)]; exact c0) (by rw [hb'.cell (by exact hb)]; exact c1) (by rw [hb'.cell (by exact hb)]; exact c2) (by rw [hb'.cell (by exact hb)]; exact c3)
  clear hL hcell h hk c0 c1 c2 c3
  simp only [List.length_singleton]
  go_enter Tryz.func193, Tryz.ntmps193
  go_wp2_with fail
  refine (HE.out _ (oalloc _ _)).mono ?_
  rintro e w1 ⟨⟨g, q, rfl, hp1⟩, hb1⟩
  obtain ⟨hB1, hz1, xr⟩ := box_keep hb1
  have HB1 := Lib.hid hB1
  have XR := Lib.hid xr
  have HF := Lib.hid fun W (hb : Below w1.heap.size w1 W) => first_one g q _ nm n 0 W (hp1.go hb)
  have HP1 := Lib.hid hp1
  clear hb1 hB1 xr hp1 HE
  go_wp2_with (go_at_call 223; refine (HF.out _ (Below.refl _ _)).mono ?_; rintro e w2 ⟨rfl, hb2⟩; have HB2 := Lib.hid (HB1.out.trans (hb2.mono (by omega))); have HP2 := Lib.hid (HP1.out.go hb2); have xr2 := (hb2.block _ hz1).trans XR.out; obtain ⟨⟨u0, u1⟩, f0, f1⟩ := var2_of xr2; have hz2 := blk_lt xr2; clear hb2 xr2)
  have HE6 : Hid (∀ W, Below w2.heap.size w2 W → Calls Tryz.prog 225 #[.pointer (some ⟨g, 0, none⟩)] W fun r w' => r = .returned (.int .i64 0) ∧ w' = W) := fun W hb => err_any g 0 W (blk_cell (HP2.out.go hb).pt rfl)
  clear HP1 HF XR
  go_region_with (go_at_call 225; refine (HE6.out _ (by go_grown)).mono ?_; rintro e w3 ⟨rfl, rfl⟩)
  all_goals
    go_wp2
    refine bodyPost_ret (v := .tuple #[.agg #[.string nm, .int .i64 n], .bool true, .int .i64 0]) (by simp [results, Tryz.results193, go_sem, World.cell?_alloc_lt, hz2, u0, u1]) rfl ⟨rfl, ?_⟩
    have hb := HB2.out
    go_grown

end Go.Proofs.YtgjmbjahgcndnaaGreatDoor

namespace Go.Proofs.YtgjmbjahgcndnaaGreatDoor
open Go.RowKit

/-- An operand as one value. -/
def opV (kd : ByteArray) (r : Int) (nm : ByteArray) (n : Int) : Value := .agg #[.string kd, .int .i64 r, .string nm, .int .i64 n]

theorem var4_of {w : World} {R : Nat} {a b c d : Value} {t : TypeId} (h : w.heap[R]? = some (.cells #[a, b, c, d] t (0, 0))) : ((w.cell? ⟨R, 0, none⟩ = some a ∧ w.cell? ⟨R, 1, none⟩ = some b) ∧ (w.cell? ⟨R, 2, none⟩ = some c ∧ w.cell? ⟨R, 3, none⟩ = some d)) ∧ (w.frozen? ⟨R, 0, none⟩ = false ∧ w.frozen? ⟨R, 1, none⟩ = false) ∧ w.frozen? ⟨R, 2, none⟩ = false ∧ w.frozen? ⟨R, 3, none⟩ = false := by
  refine ⟨⟨⟨?_, ?_⟩, ?_, ?_⟩, ⟨?_, ?_⟩, ?_, ?_⟩ <;> simp [World.cell?, World.frozen?, h]

theorem aexpr_atom (gu : Nat) (kd : ByteArray) (v : Value) (x : Tk) (nm : ByteArray) (n : Int) (hk : AtomK x.k x.n x.t nm n) (w : World) (hL : Xp.KLaid w) (h : PReads w v [x]) (c0 : w.cell? ⟨gu, 0, none⟩ = some (.slice none 0 0)) :
    Calls Tryz.prog 164 #[.pointer (some ⟨gu, 0, none⟩), .string kd, v] w fun r w' => r = .returned (.tuple #[opV kd 0 nm n, .int .i64 0]) ∧ Below w.heap.size w w' := by
  have HM := Lib.hid fun W (hb : Below w.heap.size w W) => mfirst_atom v x nm n hk W (KL.below hL hb) (h.below hb (Nat.le_refl _))
  have hg : gu < w.heap.size := World.block_lt_of_cell? w _ c0
  obtain ⟨ad, cap, rfl, _⟩ := h
  clear hL hk
  unfold opV
  go_enter Tryz.func164, Tryz.ntmps164
  go_wp2_with fail
  refine (HM.out _ (oalloc _ _)).mono ?_
  rintro e w1 ⟨rfl, hb1⟩
  obtain ⟨hB1, hz1, xr⟩ := box_keep hb1
  obtain ⟨⟨⟨u0, u1⟩, u2, u3⟩, ⟨f0, f1⟩, f2, f3⟩ := var4_of xr
  have HB1 := Lib.hid hB1
  have XR := Lib.hid xr
  clear hb1 hB1 xr HM
  go_wp2_with fail
  exact bodyPost_ret (v := .tuple #[.agg #[.string kd, .int .i64 0, .string nm, .int .i64 n], .int .i64 0]) (by simp [results, Tryz.results164, go_sem, World.cell?_alloc_lt, hz1, u0, u1, u2, u3]) rfl ⟨rfl, ((((HB1.out.setCell (Nat.le_refl _) _).setCell (Nat.le_refl _) _).setCell (Nat.le_refl _) _).setCell (Nat.le_refl _) _).alloc (by simp; omega) _⟩

/-- An operand that is a place: one token. -/
theorem operand_atom (gu : Nat) (v : Value) (x : Tk) (nm : ByteArray) (n : Int) (hk : AtomK x.k x.n x.t nm n) (w : World) (hL : Xp.KLaid w) (hG : Sc.Glob w) (h : PReads w v [x]) (c0 : w.cell? ⟨gu, 0, none⟩ = some (.slice none 0 0)) (hr : regU x.k x.t.data.toList < 0) :
    Calls Tryz.prog 131 #[.pointer (some ⟨gu, 0, none⟩), v] w fun r w' => r = .returned (.tuple #[opV ⟨#[112]⟩ 0 nm n, .int .i64 0]) ∧ Below w.heap.size w w' := by
  have hg : gu < w.heap.size := World.block_lt_of_cell? w _ c0
  have HN := Lib.hid fun W (hb : Below w.heap.size w W) => next_any v [x] W (h.below hb (Nat.le_refl _))
  have HE := Lib.hid fun W (hb : Below w.heap.size w W) => aexpr_atom gu ⟨#[112]⟩ v x nm n hk W (KL.below hL hb) (h.below hb (Nat.le_refl _)) (by rw [hb.cell (by exact hg)]; exact c0)
  have h3 : (x.k == 3) = false := by rcases hk with ⟨e, _⟩ | ⟨e, _⟩ <;> simp [e]
  have HS : Hid (∀ s W, Calls Tryz.prog 125 #[tokV x.k x.n x.t, .string s] W fun r w' => r = .returned (.bool false) ∧ Below W.heap.size W w') := fun s W => by
    have := asign_any x.k x.n x.t s W
    rwa [h3, Bool.false_and] at this
  have HR : Hid (∀ W, Below w.heap.size w W → ∃ r, r < 0 ∧ Calls Tryz.prog 156 #[tokV x.k x.n x.t] W fun e w' => e = .returned (.int .i64 r) ∧ Below W.heap.size W w') := fun W hb => by
    by_cases h1 : x.k = 1
    · refine ⟨regU 1 x.t.data.toList, by rw [← h1]; exact hr, ?_⟩
      rw [h1]
      exact register_word x.n x.t W (hG.below hb hG.sz)
    · exact ⟨-1, by omega, register_other x.k x.n x.t h1 W⟩
  obtain ⟨ad, cap, rfl, _⟩ := h
  have hrr : regU x.k x.t.data.toList < 0 := hr
  clear hL hk hG hr hrr h3
  unfold opV at *
  unfold Tk.V tokV headT at *
  simp only [List.length_singleton] at *
  go_enter Tryz.func131, Tryz.ntmps131
  go_wp2_with fail
  refine (HN.out _ (oalloc _ _)).mono ?_
  rintro e w1 ⟨⟨v', rfl, hv⟩, hb1⟩
  obtain ⟨ad', cap', rfl, _⟩ := hv
  obtain ⟨hB1, hz1, xr⟩ := box_keep hb1
  simp only [List.tail_cons, List.length_nil]
  clear hb1
  go_wp2_with fail
  refine (HS.out _ _).mono ?_
  rintro e w2 ⟨rfl, hb2⟩
  obtain ⟨hB2, hz2, xt⟩ := box_keep hb2
  have t0 : w2.cell? ⟨w1.heap.size, 0, none⟩ = some (.int .i64 x.k) := blk_cell xt rfl
  have t1 : w2.cell? ⟨w1.heap.size, 1, none⟩ = some (.int .i64 x.n) := blk_cell xt rfl
  have t2 : w2.cell? ⟨w1.heap.size, 2, none⟩ = some (.string x.t) := blk_cell xt rfl
  replace xr := (hB2.block _ (by omega)).trans xr
  have HB := Lib.hid (hB1.trans (hB2.mono (by omega)))
  clear hb2 hB2 hB1
  go_wp2_with fail
  refine (HS.out _ _).mono ?_
  rintro e w3 ⟨rfl, hb3⟩
  replace xt := (hb3.block _ (by omega)).trans xt
  replace xr := (hb3.block _ (by omega)).trans xr
  replace t0 := (hb3.cell (by show w1.heap.size < w2.heap.size; omega)).trans t0
  replace t1 := (hb3.cell (by show w1.heap.size < w2.heap.size; omega)).trans t1
  replace t2 := (hb3.cell (by show w1.heap.size < w2.heap.size; omega)).trans t2
  replace HB := Lib.hid (HB.out.trans (hb3.mono (by omega)))
  have hz3 : w1.heap.size < w3.heap.size := Nat.lt_of_lt_of_le (by omega) hb3.size
  clear hb3
  go_wp2_with fail
  refine (HS.out _ _).mono ?_
  rintro e w4 ⟨rfl, hb4⟩
  replace xt := (hb4.block _ (by omega)).trans xt
  replace xr := (hb4.block _ (by omega)).trans xr
  replace t0 := (hb4.cell (by show w1.heap.size < w3.heap.size; omega)).trans t0
  replace t1 := (hb4.cell (by show w1.heap.size < w3.heap.size; omega)).trans t1
  replace t2 := (hb4.cell (by show w1.heap.size < w3.heap.size; omega)).trans t2
  replace HB := Lib.hid (HB.out.trans (hb4.mono (by omega)))
  have hz4 : w1.heap.size < w4.heap.size := Nat.lt_of_lt_of_le (by omega) hb4.size
  clear hb4
  obtain ⟨rg, hrg, hcall⟩ := HR.out w4 HB.out
  have HRC := Lib.hid hcall
  clear hcall
  have hrg' : ¬ (0 : Int) ≤ rg := by omega
  go_wp2_with fail
  refine HRC.out.mono ?_
  rintro e w5 ⟨rfl, hb5⟩
  replace xt := (hb5.block _ (by omega)).trans xt
  replace xr := (hb5.block _ (by omega)).trans xr
  replace t0 := (hb5.cell (by show w1.heap.size < w4.heap.size; omega)).trans t0
  replace t1 := (hb5.cell (by show w1.heap.size < w4.heap.size; omega)).trans t1
  replace t2 := (hb5.cell (by show w1.heap.size < w4.heap.size; omega)).trans t2
  replace HB := Lib.hid (HB.out.trans (hb5.mono (by omega)))
  have hz5 : w1.heap.size < w5.heap.size := Nat.lt_of_lt_of_le (by omega) hb5.size
  clear hb5
  have XR := Lib.hid xr
  clear xr xt t0 t1 t2
  go_wp2_with fail
  refine (HE.out _ HB.out).mono ?_
  rintro e w6 ⟨rfl, hb6⟩
  obtain ⟨⟨⟨u0, u1⟩, u2, u3⟩, ⟨f0, f1⟩, f2, f3⟩ := var4_of ((hb6.block _ (by omega)).trans XR.out)
  have hz6 : w.heap.size < w6.heap.size := Nat.lt_of_lt_of_le (by omega) hb6.size
  replace HB := Lib.hid (HB.out.trans (hb6.mono (by omega)))
  clear hb6
  go_wp2_with fail
  exact bodyPost_ret (v := .tuple #[.agg #[.string ⟨#[112]⟩, .int .i64 0, .string nm, .int .i64 n], .int .i64 0]) (by simp [results, Tryz.results131, go_sem, u0, u1, u2, u3]) rfl ⟨rfl, (((HB.out.setCell (Nat.le_refl _) _).setCell (Nat.le_refl _) _).setCell (Nat.le_refl _) _).setCell (Nat.le_refl _) _⟩

end Go.Proofs.YtgjmbjahgcndnaaGreatDoor

namespace Go.Proofs.YtgjmbjahgcndnaaGreatDoor
open Go.RowKit

structure Opd where
  kd : ByteArray
  r : Int
  nm : ByteArray
  n : Int
def Opd.V (x : Opd) : Value := opV x.kd x.r x.nm x.n
def opC (l : List Opd) : List Value := l.flatMap fun x => [.string x.kd, .int .i64 x.r, .string x.nm, .int .i64 x.n]
theorem infoOp : (Tryz.prog.info? 235).map (fun i => (i.zero, i.size, i.bytes)) = some (some (.agg #[.string ⟨#[]⟩, .int .i64 0, .string ⟨#[]⟩, .int .i64 0]), 4, 48) := by kernel_rfl

theorem opC_app (l : List Opd) (x : Opd) : opC (l ++ [x]) = opC l ++ [.string x.kd, .int .i64 x.r, .string x.nm, .int .i64 x.n] := by simp [opC]
theorem splitT_len : ∀ (ts cur : List Tk), (splitT cur ts).length ≤ ts.length + 1
  | [], cur => by simp [splitT]
  | x :: r, cur => by
    rw [splitT]
    split
    · have := splitT_len r []; simp; omega
    · have := splitT_len r (cur ++ [x]); simp; omega
theorem pieces_len (ts : List Tk) : (piecesT ts).length ≤ ts.length + 1 := by
  unfold piecesT
  split
  · simp
  · exact splitT_len ts []

theorem row_cell1 {w : World} {base n : Nat} {e : TypeId} {oa : Option Addr} {oc : Nat} {xs : List Value} (h : w.ownsRow base e 1 (.slice oa n oc) n xs) {k : Nat} (hk : k < n) : ∃ g, oa = some ⟨g, 0, none⟩ ∧ g < w.heap.size ∧ w.cell? ⟨g, k, none⟩ = some (xs[k]'(by have := h.1; omega)) := by
  rcases id h.2 with ⟨hv, h0⟩ | ⟨g, cap, cur, hv, hg, hgg, _⟩
  · omega
  · injection hv with e1 _ _
    subst e1
    refine ⟨g, rfl, blk_lt hgg, ?_⟩
    have := h.cells rfl k _ (List.getElem?_eq_getElem (by have := h.1; omega))
    have hadd : (⟨g, 0, none⟩ : Addr).add k = ⟨g, 0 + k, none⟩ := by unfold Addr.add; split <;> simp_all
    rw [hadd, Nat.zero_add] at this
    exact this

set_option maxHeartbeats 4000000 in
set_option maxRecDepth 100000 in
/-- Operands, each of which is read as it is told. -/
theorem operands_any (gu : Nat) (v : Value) (ts : List Tk) (ops : List Opd) (w : World) (h : PReads w v ts) (hn : ts.length ≤ 1000) (hl : ops.length = (piecesT ts).length)
    (hop : ∀ i (h : i < ops.length) (u : Value) (W : World), Below w.heap.size w W → PReads W u ((piecesT ts)[i]'(by omega)) → Calls Tryz.prog 131 #[.pointer (some ⟨gu, 0, none⟩), u] W fun r w' => r = .returned (.tuple #[ops[i].V, .int .i64 0]) ∧ Below W.heap.size W w') :
    Calls Tryz.prog 92 #[.pointer (some ⟨gu, 0, none⟩), v] w fun r w' => (∃ ov, r = .returned (.tuple #[ov, .int .i64 0]) ∧ w'.ownsRow w.heap.size 235 4 ov ops.length (opC ops)) ∧ Below w.heap.size w w' := by
  have HS := Lib.hid (split_any v ts w h (by omega))
  have hol : ops.length ≤ 1001 := by have := pieces_len ts; omega
  have HOP := Lib.hid hop
  obtain ⟨ad, cap, rfl, _⟩ := h
  clear hop
  go_enter Tryz.func92, Tryz.ntmps92
  go_wp2_with fail
  refine HS.out.mono ?_
  rintro e w1 ⟨⟨ov, vs, rfl, hT⟩, hB1⟩
  obtain ⟨oa, oc, hov⟩ := row_shape hT.1
  subst hov
  have HT := Lib.hid hT
  have HB1 := Lib.hid hB1
  have hvl : vs.length = ops.length := by rw [hl]; exact hT.2.1
  clear hT hB1 HS
  go_wp2_with fail
  go_loopw [7, 16] (fun ov iv wr => ∃ k : Nat, k ≤ ops.length ∧ iv = .int .i64 k ∧ Hid (wr.ownsRow w1.heap.size 235 4 ov k (opC (ops.take k))) ∧ Hid (Below w1.heap.size w1 wr)) (fun _ iv _ => ops.length - (intOf iv).toNat)
  case atStart => exact ⟨0, Nat.zero_le _, rfl, Lib.hid (by simpa [opC] using World.ownsRow_nil w1 _ _ _), Below.refl _ _⟩
  case round =>
    obtain ⟨k, hk, rfl, HR, HB⟩ := hrel
    by_cases hlt : k < ops.length
    · have hk' : (k : Int) < vs.length := by omega
      obtain ⟨g, rfl, hgl, hgc⟩ := row_cell1 HT.out.1 (k := k) (by omega)
      have hz := HB.out.size
      have hB : Below w.heap.size w wr := HB1.out.trans (HB.out.mono HB1.out.size)
      have hkv : k < vs.length := by omega
      have hpk : PReads w (vs[k]'hkv) ((piecesT ts)[k]'(by omega)) := HT.out.2.2 k hkv (by omega)
      obtain ⟨u, hu⟩ : ∃ u, vs[k]'hkv = u := ⟨_, rfl⟩
      rw [hu] at hgc hpk
      clear hu
      obtain ⟨ua, un, uc, rfl⟩ := hpk.shape
      have c0 : wr.cell? ⟨g, k, none⟩ = some (.slice ua un uc) := (HB.out.cell (by show g < w1.heap.size; exact hgl)).trans hgc
      have hg2 : g < wr.heap.size := by omega
      have HC := Lib.hid (HOP.out k hlt (.slice ua un uc) wr hB (hpk.below hB (Nat.le_refl _)))
      have HTK : Hid (opC (ops.take (k + 1)) = opC (ops.take k) ++ [.string ops[k].kd, .int .i64 ops[k].r, .string ops[k].nm, .int .i64 ops[k].n]) := by
        unfold Hid
        rw [List.take_succ_eq_append_getElem hlt, opC_app]
      unfold Opd.V opV at HC
      obtain ⟨x, hx⟩ : ∃ x, ops[k]'hlt = x := ⟨_, rfl⟩
      rw [hx] at HC HTK
      clear hx hpk hB hgc
      obtain ⟨la, lc, hov⟩ := row_shape HR.out
      subst hov
      have HAP : Hid (∀ w2, Below wr.heap.size wr w2 → ∃ la' lc' w3, (∀ ty, (Builtin.append_ #[191, 191] ty #[.slice la k lc, .slice (some ⟨w2.heap.size + 1, 0, none⟩) 1 1]).run Tryz.prog ((w2.alloc (.cells #[.string x.kd, .int .i64 x.r, .string x.nm, .int .i64 x.n] 235)).alloc (.cells #[.string x.kd, .int .i64 x.r, .string x.nm, .int .i64 x.n] 235)) = .ok (.slice la' (k + 1) lc') w3) ∧
          w3.ownsRow w1.heap.size 235 4 (.slice la' (k + 1) lc') (k + 1) (opC (ops.take (k + 1))) ∧ Below w1.heap.size w1 w3) := fun w2 hb => by
        have hz2 := hb.size
        have hrow := ((Sc.owns_below HR.out hb (Nat.le_refl _)).alloc (.cells #[.string x.kd, .int .i64 x.r, .string x.nm, .int .i64 x.n] 235)).alloc (.cells #[.string x.kd, .int .i64 x.r, .string x.nm, .int .i64 x.n] 235)
        obtain ⟨v', w3, happ, hr', hgr⟩ := app1 191 235 _ 4 48 Tryz.underlying191 infoOp rfl (by decide) (by decide) hrow (by go_size) [.string x.kd, .int .i64 x.r, .string x.nm, .int .i64 x.n] rfl (w2.heap.size + 1) (new_at _ _ (by simp)) (by intro u hu; simp at hu; rcases hu with rfl | rfl | rfl | rfl <;> rfl) (by omega)
        obtain ⟨la', lc', rfl⟩ := row_shape hr'
        refine ⟨la', lc', w3, happ, by rw [HTK.out]; exact hr', ?_⟩
        have hb1 := HB.out.trans (hb.mono hz)
        exact ((hb1.alloc (by omega) _).alloc (by go_size) _).grown hgr (by go_size) (fun q hq => (hrow.lt q hq).1)
      go_wp2_with (first
        | (go_at_call 131; refine HC.out.mono ?_; rintro e w2 ⟨rfl, hb2⟩; obtain ⟨la', lc', w3, happ, hr3, hb3⟩ := HAP.out w2 hb2; have HA := Lib.hid happ; have HR3 := Lib.hid hr3; have HB3 := Lib.hid hb3; clear hb2 happ hr3 hb3)
        | (at_builtin; refine wpList_app_eq rfl _ _ _ _ rfl _ _ rfl rfl HA.out ?_))
      exact ⟨⟨k + 1, by omega, by go_num, HR3, HB3⟩, by simp [intOf]; omega⟩
    · obtain rfl : k = ops.length := by omega
      have hk' : ¬ ((ops.length : Nat) : Int) < vs.length := by omega
      obtain ⟨la, lc, hov⟩ := row_shape HR.out
      subst hov
      go_wp2
      go_ret2
      refine ⟨?_, HB1.out.trans (HB.out.mono HB1.out.size)⟩
      have := HR.out
      rw [List.take_length] at this
      have h2 := Sc.ownsRow_base this HB1.out.size
      rw [hl] at h2
      exact ⟨_, rfl, h2⟩

end Go.Proofs.YtgjmbjahgcndnaaGreatDoor

namespace Go.Proofs.YtgjmbjahgcndnaaGreatDoor
open Go.RowKit

/-- A unit's cells. -/
def uC (e : Value) (ln : Int) (nv lm iv pp pv rv : Value) : Array Value := #[e, .int .i64 ln, nv, lm, iv, pp, pv, rv]
theorem infoIt : (Tryz.prog.info? 198).map (fun i => (i.zero, i.size, i.bytes)) = some (some (.agg #[.int .i64 0, .int .i64 0, .int .i64 0, .int .i64 0, .nilFunc, .nilFunc]), 6, 48) := by kernel_rfl

set_option maxHeartbeats 2000000 in
theorem add_any (gu B n : Nat) (e nv lm iv pp pv rv fa by' : Value) (ln li si up al : Int) (xs : List Value) (w : World) (hB : B ≤ w.heap.size) (hu : w.heap[gu]? = some (.cells (uC e ln nv lm iv pp pv rv) 141 (0, 0))) (hr : w.ownsRow B 198 6 iv n xs) (hgB : gu < B) (hn : n ≤ 100000) (hf1 : fa = .nilFunc ∨ ∃ a b c, fa = .func a b c) (hb1 : ∃ a b c, by' = .func a b c) :
    Calls Tryz.prog 94 #[.pointer (some ⟨gu, 0, none⟩), itV li si up al fa by'] w fun r w' => r = .returned (.tuple #[]) ∧
      (∃ iv', w'.heap[gu]? = some (.cells (uC e ln nv lm iv' pp pv rv) 141 (0, 0)) ∧ w'.ownsRow B 198 6 iv' (n + 1) (xs ++ [.int .i64 ln, .int .i64 si, .int .i64 up, .int .i64 al, fa, by'])) ∧ Fr gu B w w' ∧ (∀ i, i < w.heap.size → i ≠ gu → some i ≠ iv.ownBlock → w'.heap[i]? = w.heap[i]?) := by
  obtain ⟨la, lc, rfl⟩ := row_shape hr
  have c1 : w.cell? ⟨gu, 1, none⟩ = some (.int .i64 ln) := blk_cell hu rfl
  have c4 : w.cell? ⟨gu, 4, none⟩ = some (.slice la n lc) := blk_cell hu rfl
  have hg := blk_lt hu
  have hof : fa.oneCell' = true := by rcases hf1 with rfl | ⟨a, b, c, rfl⟩ <;> rfl
  have hob : by'.oneCell' = true := by obtain ⟨a, b, c, rfl⟩ := hb1; rfl
  have hrow : (((w.alloc (.cells #[.int .i64 ln, .int .i64 si, .int .i64 up, .int .i64 al, fa, by'] 198)).alloc (.cells #[.int .i64 ln, .int .i64 si, .int .i64 up, .int .i64 al, fa, by'] 198)).drew).ownsRow B 198 6 (.slice la n lc) n xs := (hr.alloc _).alloc _
  obtain ⟨v', w', happ, hr', hgr⟩ := app1 139 198 _ 6 48 Tryz.underlying139 infoIt rfl (by decide) (by decide) hrow (by simp; omega) [.int .i64 ln, .int .i64 si, .int .i64 up, .int .i64 al, fa, by'] rfl (w.heap.size + 1) (new_at _ _ (by simp)) (by intro u hu; simp at hu; rcases hu with rfl | rfl | rfl | rfl | rfl | rfl <;> first | rfl | assumption) (by omega)
  obtain ⟨la', lc', rfl⟩ := row_shape hr'
  have hbox : (((w.alloc (.cells #[.int .i64 ln, .int .i64 si, .int .i64 up, .int .i64 al, fa, by'] 198)).alloc (.cells #[.int .i64 ln, .int .i64 si, .int .i64 up, .int .i64 al, fa, by'] 198)).drew).heap[gu]? = some (.cells (uC e ln nv lm (.slice la n lc) pp pv rv) 141 (0, 0)) := by
    show (World.alloc _ _).heap[gu]? = _
    rw [old2 _ _ (by simp; omega), old2 _ _ hg]
    exact hu
  have hbox' := (hgr.block gu (blk_lt hbox) (row_box hrow hbox (by decide))).trans hbox
  have HF : Hid (Fr gu B w w') := by
    refine Fr.trans (Fr.below (by go_grown)) (Fr.grown hgr (by go_size) ?_)
    intro q hq
    exact .inr (hrow.lt q hq).1
  have HO : Hid (∀ i, i < w.heap.size → i ≠ gu → some i ≠ (Value.slice la n lc).ownBlock → w'.heap[i]? = w.heap[i]?) := fun i hi h1 h2 => by
    rw [hgr.block i (by go_size) h2]
    show (World.alloc _ _).heap[i]? = _
    rw [old2 _ _ (by go_size), old2 _ _ hi]
  have HW : Hid ((w'.setCell ⟨gu, 4, none⟩ (.slice la' (n + 1) lc')).heap[gu]? = some (.cells (uC e ln nv lm (.slice la' (n + 1) lc') pp pv rv) 141 (0, 0)) ∧ (w'.setCell ⟨gu, 4, none⟩ (.slice la' (n + 1) lc')).ownsRow B 198 6 (.slice la' (n + 1) lc') (n + 1) (xs ++ [.int .i64 ln, .int .i64 si, .int .i64 up, .int .i64 al, fa, by'])) := ⟨blk_set hbox', row_set hr' hgB⟩
  have d4 : w'.cell? ⟨gu, 4, none⟩ = some (.slice la n lc) := blk_cell hbox' rfl
  have f4 : w'.frozen? ⟨gu, 4, none⟩ = false := blk_froz hbox'
  have hg' := blk_lt hbox'
  obtain ⟨ba, bb, bc, rfl⟩ := hb1
  clear hrow hr' hgr hbox hbox' hu hr hof hob
  unfold itV
  rcases hf1 with rfl | ⟨fa1, fa2, fa3, rfl⟩
  all_goals
    go_enter Tryz.func94, Tryz.ntmps94
    go_wp2_with fail
    go_region_law (refine step_app1 rfl _ _ _ _ rfl _ _ rfl rfl happ ?_)
    all_goals exact bodyPost_end (v := .tuple #[]) (by simp [results, Tryz.results94, go_sem]) rfl ⟨rfl, ⟨_, HW.out⟩, HF.out.trans (Fr.of (gset w' gu 4 _) (Nat.le_trans hB HF.out.size)), fun i hi h1 h2 => by rw [Below.heap_setCell _ _ _ _ h1]; exact HO.out i hi h1 h2⟩

end Go.Proofs.YtgjmbjahgcndnaaGreatDoor

namespace Go.Proofs.YtgjmbjahgcndnaaGreatDoor
open Go.RowKit

/-- The types of what an item's functions keep. -/
def Capt (t : TypeId) : Prop := t ∈ [185, 3, 201, 71, 269, 191, 235, 137]
instance (t : TypeId) : Decidable (Capt t) := by unfold Capt; infer_instance

/-- A function that tells where an instruction leads: a value's place, or a pool's value (told by the pool's block). -/
def GoalR (W : World) (gu : Nat) (tv : Value) : Goal → Prop
  | .val nm n => ∃ gb gl b len c cur, tv = .func (.func 172) #[] #[.pointer (some ⟨gb, 0, none⟩), .pointer (some ⟨gl, 0, none⟩)] ∧ W.heap[gb]? = some (.cells #[.pointer (some ⟨gu, 0, none⟩)] 185 (0, 0)) ∧ W.heap[gl]? = some (.cells #[.slice (some ⟨b, 0, none⟩) (len + 1) c] 191 (0, 0)) ∧ W.heap[b]? = some (.cells cur 235 (0, 0)) ∧ (∃ kd r, cur[0]? = some (.string kd) ∧ cur[1]? = some (.int .i64 r)) ∧ cur[2]? = some (.string ⟨nm.toArray⟩) ∧ cur[3]? = some (.int .i64 n)
  | .slot gp i => ∃ gb gq gi, tv = .func (.func 202) #[] #[.pointer (some ⟨gb, 0, none⟩), .pointer (some ⟨gq, 0, none⟩), .pointer (some ⟨gi, 0, none⟩)] ∧ W.heap[gb]? = some (.cells #[.pointer (some ⟨gu, 0, none⟩)] 185 (0, 0)) ∧ W.heap[gq]? = some (.cells #[.pointer (some ⟨gp, 0, none⟩)] 137 (0, 0)) ∧ W.heap[gi]? = some (.cells #[.int .i64 i] 3 (0, 0))

/-- What the functions of an item keep. -/
def GenR (W : World) (gu : Nat) (x : It) (fa by' : Value) : Prop :=
  match x.gen with
  | .fill => fa = .nilFunc ∧ by' = .func (.func 135) #[] #[]
  | .num nm n => fa = .nilFunc ∧ ∃ gb gs gv, by' = .func (.func 136) #[] #[.pointer (some ⟨gv, 0, none⟩), .pointer (some ⟨gs, 0, none⟩), .pointer (some ⟨gb, 0, none⟩)] ∧ W.heap[gb]? = some (.cells #[.pointer (some ⟨gu, 0, none⟩)] 185 (0, 0)) ∧ W.heap[gs]? = some (.cells #[.int .i64 x.size] 3 (0, 0)) ∧ W.heap[gv]? = some (.cells #[.string ⟨nm.toArray⟩, .int .i64 n] 201 (0, 0))
  | .plain op n m imm => fa = .nilFunc ∧ ∃ gi, by' = .func (.func 205) #[] #[.pointer (some ⟨gi, 0, none⟩)] ∧ W.heap[gi]? = some (.cells #[.int .i64 op, .int .i64 n, .int .i64 m, .int .i64 imm] 71 (0, 0))
  | .lead op n m imm q => ∃ gt gi tv, fa = (if Isa.infoShape op = 4 then .func (.func 200) #[] #[.pointer (some ⟨gt, 0, none⟩)] else .nilFunc) ∧ by' = .func (.func 196) #[] #[.pointer (some ⟨gt, 0, none⟩), .pointer (some ⟨gi, 0, none⟩)] ∧ W.heap[gt]? = some (.cells #[tv] 269 (0, 0)) ∧ W.heap[gi]? = some (.cells #[.int .i64 op, .int .i64 n, .int .i64 m, .int .i64 imm] 71 (0, 0)) ∧ GoalR W gu tv q

/-- Blocks of the types that functions keep are as they were. -/
def KeepU (W W' : World) : Prop := W.heap.size ≤ W'.heap.size ∧ ∀ (q : Nat) (c : Array Value) (t : TypeId) (f : Nat × Nat), W.heap[q]? = some (.cells c t f) → Capt t → W'.heap[q]? = some (.cells c t f)
theorem KeepU.of {W W' : World} (h : Below W.heap.size W W') : KeepU W W' := ⟨h.size, fun q c t f hb _ => by rw [h.block q (blk_lt hb)]; exact hb⟩
theorem GoalR.stays {W W' : World} {gu : Nat} {tv : Value} {q : Goal} (h : GoalR W gu tv q) (k : ∀ {q : Nat} {c : Array Value} {t : TypeId}, W.heap[q]? = some (.cells c t (0, 0)) → Capt t → W'.heap[q]? = some (.cells c t (0, 0))) : GoalR W' gu tv q := by
  cases q with
  | val nm n =>
    obtain ⟨gb, gl, b, len, c, cur, e, h1, h2, h3, h4⟩ := h
    exact ⟨gb, gl, b, len, c, cur, e, k h1 (by decide), k h2 (by decide), k h3 (by decide), h4⟩
  | slot gp i =>
    obtain ⟨gb, gq, gi, e, h1, h2, h3⟩ := h
    exact ⟨gb, gq, gi, e, k h1 (by decide), k h2 (by decide), k h3 (by decide)⟩
theorem GenR.stays {W W' : World} {gu : Nat} {x : It} {fa by' : Value} (h : GenR W gu x fa by') (k : ∀ {q : Nat} {c : Array Value} {t : TypeId}, W.heap[q]? = some (.cells c t (0, 0)) → Capt t → W'.heap[q]? = some (.cells c t (0, 0))) : GenR W' gu x fa by' := by
  unfold GenR at h ⊢
  cases hx : x.gen with
  | fill => rw [hx] at h; exact h
  | num nm n =>
    rw [hx] at h
    obtain ⟨h0, gb, gs, gv, e, a, b, c⟩ := h
    exact ⟨h0, gb, gs, gv, e, k a (by decide), k b (by decide), k c (by decide)⟩
  | plain op n m imm =>
    rw [hx] at h
    obtain ⟨h0, gi, e, a⟩ := h
    exact ⟨h0, gi, e, k a (by decide)⟩
  | lead op n m imm q =>
    rw [hx] at h
    obtain ⟨gt, gi, tv, h0, e, a, b, c⟩ := h
    exact ⟨gt, gi, tv, h0, e, k a (by decide), k b (by decide), c.stays k⟩
theorem GenR.keep {W W' : World} {gu : Nat} {x : It} {fa by' : Value} (h : GenR W gu x fa by') (k : KeepU W W') : GenR W' gu x fa by' := h.stays fun a b => k.2 _ _ _ _ a b
theorem GenR.shape {W : World} {gu : Nat} {x : It} {fa by' : Value} (h : GenR W gu x fa by') : (fa = .nilFunc ∨ ∃ a b c, fa = .func a b c) ∧ ∃ a b c, by' = .func a b c := by
  unfold GenR at h
  cases hx : x.gen with
  | fill => rw [hx] at h; exact ⟨.inl h.1, _, _, _, h.2⟩
  | num nm n => rw [hx] at h; obtain ⟨h0, _, _, _, e, _⟩ := h; exact ⟨.inl h0, _, _, _, e⟩
  | plain op n m imm => rw [hx] at h; obtain ⟨h0, _, e, _⟩ := h; exact ⟨.inl h0, _, _, _, e⟩
  | lead op n m imm q =>
    rw [hx] at h
    obtain ⟨_, _, _, h0, e, _⟩ := h
    refine ⟨?_, _, _, _, e⟩
    rw [h0]
    split
    · exact .inr ⟨_, _, _, rfl⟩
    · exact .inl rfl
/-- An item that is never asked whether it must be long. -/
def NoFar (x : It) : Prop := match x.gen with | .lead op _ _ _ _ => Isa.infoShape op ≠ 4 | _ => True
theorem GenR.noFar {W : World} {gu : Nat} {x : It} {fa by' : Value} (h : GenR W gu x fa by') (hn : NoFar x) : fa = .nilFunc := by
  unfold GenR at h
  unfold NoFar at hn
  cases hx : x.gen with
  | fill => rw [hx] at h; exact h.1
  | num nm n => rw [hx] at h; exact h.1
  | plain op n m imm => rw [hx] at h; exact h.1
  | lead op n m imm q =>
    rw [hx] at h hn
    obtain ⟨_, _, _, h0, _⟩ := h
    rw [h0, if_neg hn]

/-- Items, each with its two functions. -/
def itC (l : List (It × Value × Value)) : List Value := l.flatMap fun p => [.int .i64 p.1.line, .int .i64 p.1.size, .int .i64 p.1.upTo, .int .i64 p.1.align, p.2.1, p.2.2]

/-- A unit in memory: the box, its items, and what the others hold. -/
structure UR (W : World) (B gu : Nat) (e : Value) (ln : Int) (nv lm pp pv rv : Value) (its : List It) : Prop where
  lt : gu < B
  le : B ≤ W.heap.size
  its : ∃ iv l, W.heap[gu]? = some (.cells (uC e ln nv lm iv pp pv rv) 141 (0, 0)) ∧ W.ownsRow B 198 6 iv its.length (itC l) ∧ l.map (·.1) = its ∧ ∀ p, p ∈ l → GenR W gu p.1 p.2.1 p.2.2

theorem UR.go {W W' : World} {B gu : Nat} {e : Value} {ln : Int} {nv lm pp pv rv : Value} {its : List It} (h : UR W B gu e ln nv lm pp pv rv its) (hb : Below W.heap.size W W') : UR W' B gu e ln nv lm pp pv rv its := by
  obtain ⟨iv, l, h1, h2, h3, h4⟩ := h.its
  exact ⟨h.lt, Nat.le_trans h.le hb.size, iv, l, by rw [hb.block _ (blk_lt h1)]; exact h1, Sc.owns_below h2 hb (Nat.le_refl _), h3, fun p hp => (h4 p hp).keep (KeepU.of hb)⟩

theorem opC_at : ∀ (l : List Opd) (i : Nat) (h : i < l.length), (opC l)[i * 4]? = some (.string l[i].kd) ∧ (opC l)[i * 4 + 1]? = some (.int .i64 l[i].r) ∧ (opC l)[i * 4 + 2]? = some (.string l[i].nm) ∧ (opC l)[i * 4 + 3]? = some (.int .i64 l[i].n)
  | [], i, h => by simp at h
  | t :: r, 0, h => by simp [opC]
  | t :: r, i + 1, h => by
    have ih := opC_at r i (by simpa using h)
    have e : opC (t :: r) = [.string t.kd, .int .i64 t.r, .string t.nm, .int .i64 t.n] ++ opC r := by simp [opC]
    rw [e, show (i + 1) * 4 = 4 + i * 4 by omega]
    simp only [List.getElem_cons_succ]
    refine ⟨?_, ?_, ?_, ?_⟩
    · rw [List.getElem?_append_right (by simp)]; simpa using ih.1
    · rw [List.getElem?_append_right (by simp; omega)]; simpa [show 4 + i * 4 + 1 - 4 = i * 4 + 1 by omega] using ih.2.1
    · rw [List.getElem?_append_right (by simp; omega)]; simpa [show 4 + i * 4 + 2 - 4 = i * 4 + 2 by omega] using ih.2.2.1
    · rw [List.getElem?_append_right (by simp; omega)]; simpa [show 4 + i * 4 + 3 - 4 = i * 4 + 3 by omega] using ih.2.2.2

end Go.Proofs.YtgjmbjahgcndnaaGreatDoor

namespace Go.Proofs.YtgjmbjahgcndnaaGreatDoor
open Go.RowKit

/-- Whether a text begins with a label. -/
def labelled (ts : List Tk) : Bool := (headT ts).k == 1 && ((headT ts.tail).k == 3 && (headT ts.tail).t.toList == [58])

set_option maxHeartbeats 2000000 in
theorem labels_none (gu : Nat) (v : Value) (ts : List Tk) (w : World) (h : PReads w v ts) (hl : labelled ts = false) :
    Calls Tryz.prog 89 #[.pointer (some ⟨gu, 0, none⟩), v] w fun r w' => r = .returned (.tuple #[v, .int .i64 0]) ∧ Below w.heap.size w w' := by
  have HN := Lib.hid fun W (hb : Below w.heap.size w W) => next_any v ts W (h.below hb (Nat.le_refl _))
  have HN2 := Lib.hid fun v' (hv : PReads w v' ts.tail) W (hb : Below w.heap.size w W) => next_any v' ts.tail W (hv.below hb (Nat.le_refl _))
  have HW := Lib.hid fun W => aword_any (headT ts).k (headT ts).n (headT ts).t W
  have HS := Lib.hid fun W => asign_any (headT ts.tail).k (headT ts.tail).n (headT ts.tail).t ⟨#[58]⟩ W
  have e58 : (⟨#[58]⟩ : ByteArray).toList = [58] := by simp [ByteArray.toList_eq]
  rw [e58] at HS
  have hl2 : ((headT ts).k == 1 && ((headT ts.tail).k == 3 && (headT ts.tail).t.toList == [58])) = false := hl
  clear e58
  obtain ⟨ad, cap, rfl, _⟩ := h
  generalize ts.tail = tl at *
  generalize headT ts = x at *
  generalize headT tl = y at *
  generalize ((x.k == 1) : Bool) = p1 at *
  generalize ((y.k == 3 && y.t.toList == [58]) : Bool) = p2 at *
  obtain ⟨xk, xn, xt⟩ := x
  obtain ⟨yk, yn, yt⟩ := y
  unfold Tk.V tokV at *
  simp only at *
  clear hl
  go_enter Tryz.func89, Tryz.ntmps89
  go_wp2_with fail
  refine wp_loop_rounds 1 ?_
  rw [rounds_succ]
  go_wp2_with fail
  refine (HN.out _ (Below.refl _ _)).mono ?_
  rintro e w1 ⟨⟨v', rfl, hv⟩, hb1⟩
  obtain ⟨ad', cap', rfl, _⟩ := id hv
  have HV := Lib.hid hv
  have HB1 := Lib.hid hb1
  clear hv hb1 HN
  go_wp2_with fail
  refine (HN2.out _ HV.out _ (HB1.out.alloc HB1.out.size _)).mono ?_
  rintro e w2 ⟨⟨v2, rfl, hv2⟩, hb2⟩
  obtain ⟨ad2, cap2, rfl, _⟩ := hv2
  obtain ⟨hB2, hz2, xr⟩ := box_keep hb2
  have t0 : w2.cell? ⟨w1.heap.size, 0, none⟩ = some (.int .i64 xk) := blk_cell xr rfl
  have t1 : w2.cell? ⟨w1.heap.size, 1, none⟩ = some (.int .i64 xn) := blk_cell xr rfl
  have t2 : w2.cell? ⟨w1.heap.size, 2, none⟩ = some (.string xt) := blk_cell xr rfl
  have HB2 := Lib.hid (HB1.out.trans (hB2.mono HB1.out.size))
  clear hb2 hB2 xr HB1 HN2 HV
  cases p1
  · go_wp2_with (first
      | (go_at_call 91; refine (HW.out _).mono ?_; rintro e w3 ⟨rfl, hb3⟩; have HB3 : Hid (Below w.heap.size w w3) := Below.trans (by have hb := HB2.out; have := HB2.out.size; go_grown) (hb3.mono (by have := HB2.out.size; go_size)); clear hb3)
      | fail)
    go_ret2
    exact ⟨rfl, HB3.out⟩
  · have hp2 : p2 = false := by simpa using hl2
    subst hp2
    go_wp2_with (first
      | (go_at_call 91; refine (HW.out _).mono ?_; rintro e w3 ⟨rfl, hb3⟩; obtain ⟨hB3, hz3, yr⟩ := box_keep hb3; have s0 : w3.cell? ⟨w2.heap.size, 0, none⟩ = some (.int .i64 yk) := blk_cell yr rfl; have s1 : w3.cell? ⟨w2.heap.size, 1, none⟩ = some (.int .i64 yn) := blk_cell yr rfl; have s2 : w3.cell? ⟨w2.heap.size, 2, none⟩ = some (.string yt) := blk_cell yr rfl; have HB3 : Hid (Below w.heap.size w w3) := HB2.out.trans (hB3.mono HB2.out.size); clear hb3 hB3 yr)
      | (go_at_call 125; refine (HS.out _).mono ?_; rintro e w4 ⟨rfl, hb4⟩; have HB4 : Hid (Below w.heap.size w w4) := HB3.out.trans (hb4.mono HB3.out.size); clear hb4))
    go_ret2
    exact ⟨rfl, HB4.out⟩

end Go.Proofs.YtgjmbjahgcndnaaGreatDoor
