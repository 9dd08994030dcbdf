/- expr's Part in memory, and its smallest functions. -/
import Derived.Test.YtjmjhbdlbmnllaaGreatDoorPut10
import Derived.Test.YtjmjhbdlbmnllaaGreatDoorShelf
namespace Go.Proofs.YtjmjhbdlbmnllaaGreatDoor
open Go.RowKit

theorem blk_cell {w : World} {b i : Nat} {c : Array Value} {t : TypeId} {v : Value} (h : w.heap[b]? = some (.cells c t (0, 0))) (hv : c[i]? = some v) : w.cell? ⟨b, i, none⟩ = some v := by simp [World.cell?, h, hv]
theorem blk_froz {w : World} {b i : Nat} {c : Array Value} {t : TypeId} (h : w.heap[b]? = some (.cells c t (0, 0))) : w.frozen? ⟨b, i, none⟩ = false := by simp [World.frozen?, h]
theorem blk_new (w : World) (c : Array Value) (t : TypeId) : (w.alloc (.cells c t)).heap[w.heap.size]? = some (.cells c t (0, 0)) := by unfold World.alloc; simp only [Array.getElem?_push_size]
theorem blk_lt {w : World} {b : Nat} {o : Obj} (h : w.heap[b]? = some o) : b < w.heap.size := (Array.getElem?_eq_some_iff.1 h).1

theorem blk_set {w : World} {b i : Nat} {c : Array Value} {t : TypeId} {v : Value} (h : w.heap[b]? = some (.cells c t (0, 0))) : (w.setCell ⟨b, i, none⟩ v).heap[b]? = some (.cells (c.setIfInBounds i v) t (0, 0)) := _root_.Go.heap_setCell_same w b i c t v h

/-- A chain's cells: nothing yet, or one value. -/
def chC (b : Bool) (nm : ByteArray) (n : Int) : Array Value := #[.bool b, .string nm, .int .i64 n, .slice none 0 0, .int .i64 0]
/-- A Part's cells, with one chain. -/
def ptC (a : ByteArray) (b : Bool) (ev : Value) (q : Nat) (u : Bool) (e : Int) : Array Value := #[.string a, .bool b, ev, .slice none 0 0, .slice (some ⟨q, 0, none⟩) 1 1, .bool u, .int .i64 e]

theorem makeC (w : World) : (Instr.makeSlice 289 (.int .i64 1) (.int .i64 1)).run Tryz.prog w = .ok (.slice (some ⟨w.heap.size, 0, none⟩) 1 1) (w.alloc (.cells #[.bool false, .string ⟨#[]⟩, .int .i64 0, .slice none 0 0, .int .i64 0] 311)) := by kernel_rfl

/-- A Part at g with its chain at q. -/
structure PR (w : World) (g q : Nat) (a : ByteArray) (b : Bool) (ev : Value) (u : Bool) (e : Int) (cb : Bool) (nm : ByteArray) (n : Int) : Prop where
  pt : w.heap[g]? = some (.cells (ptC a b ev q u e) 291 (0, 0))
  ch : w.heap[q]? = some (.cells (chC cb nm n) 311 (0, 0))

theorem PR.ne {w : World} {g q : Nat} {a : ByteArray} {b : Bool} {ev : Value} {u : Bool} {e : Int} {cb : Bool} {nm : ByteArray} {n : Int} (h : PR w g q a b ev u e cb nm n) : g ≠ q := by
  intro e
  subst e
  have := h.pt.symm.trans h.ch
  simp at this
theorem PR.go {w w' : World} {g q : Nat} {a : ByteArray} {b : Bool} {ev : Value} {u : Bool} {e : Int} {cb : Bool} {nm : ByteArray} {n : Int} (h : PR w g q a b ev u e cb nm n) (hb : Below w.heap.size w w') : PR w' g q a b ev u e cb nm n :=
  ⟨by rw [hb.block _ (blk_lt h.pt)]; exact h.pt, by rw [hb.block _ (blk_lt h.ch)]; exact h.ch⟩

theorem from_any (a : ByteArray) (b : Bool) (ad : Option Addr) (len cap : Nat) (w : World) : Calls Tryz.prog 196 #[.agg #[.string a, .bool b], .slice ad len cap] w fun r w' =>
    (∃ g q, r = .returned (.pointer (some ⟨g, 0, none⟩)) ∧ w.heap.size ≤ g ∧ w.heap.size ≤ q ∧ PR w' g q a b (.slice ad len cap) false 0 false ⟨#[]⟩ 0) ∧ Below w.heap.size w w' := by
  have hm := makeC
  go_enter Tryz.func196, Tryz.ntmps196
  go_wp2
  go_region
  go_wp2
  go_ret
  refine ⟨⟨w.heap.size + 1 + 1, w.heap.size + 1, rfl, by omega, by omega, ?_, ?_⟩, ?_⟩
  · show (World.alloc _ _).heap[_]? = _
    exact new_at _ _ (by simp)
  · show (World.alloc _ _).heap[w.heap.size + 1]? = _
    rw [old2 _ _ (by simp)]
    exact new_at _ _ (by simp)
  · exact (((oalloc w _).alloc (by simp) _).alloc (by simp; omega) _).drew

theorem err_any (g : Nat) (e : Int) (w : World) (h : w.cell? ⟨g, 6, none⟩ = some (.int .i64 e)) : Calls Tryz.prog 203 #[.pointer (some ⟨g, 0, none⟩)] w fun r w' => r = .returned (.int .i64 e) ∧ w' = w := by
  go_enter Tryz.func203, Tryz.ntmps203
  go_wp2
  go_ret
  exact ⟨rfl, rfl⟩

/-- Nothing is around: no bracket. -/
theorem within_any (s : ByteArray) (hs : s = ⟨#[]⟩ ∨ s = ⟨#[45]⟩) (w : World) : Calls Tryz.prog 234 #[.string s] w fun r w' => r = .returned (.string ⟨#[]⟩) ∧ w' = w := by
  have HL : Hid (∀ W, Calls Tryz.prog 246 #[.string s, .string ⟨#[40]⟩] W fun e w' => e = .returned (.int .i64 (-1)) ∧ w' = W) := fun W => by
    have := Tryz.strings_LastIndex_one s ⟨#[40]⟩ rfl (by rcases hs with rfl | rfl <;> decide) W
    rcases hs with rfl | rfl <;> exact this
  rcases hs with rfl | rfl
  all_goals
    go_enter Tryz.func234, Tryz.ntmps234
    go_wp2_with (go_at_call 246; refine (HL.out _).mono ?_; rintro e w1 ⟨rfl, rfl⟩)
    go_ret
    exact ⟨rfl, rfl⟩

theorem last_any (g q : Nat) (w : World) (h : w.cell? ⟨g, 4, none⟩ = some (.slice (some ⟨q, 0, none⟩) 1 1)) : Calls Tryz.prog 237 #[.pointer (some ⟨g, 0, none⟩)] w fun r w' => r = .returned (.pointer (some ⟨q, 0, none⟩)) ∧ Below w.heap.size w w' := by
  go_enter Tryz.func237, Tryz.ntmps237
  go_wp2
  go_quiet (fail)
  go_wp2
  go_ret
  exact ⟨rfl, below_drewN (Below.refl _ _) _⟩

theorem gtrans {a b c : World} {r : Option Nat} (h : a.grownBy b r) (k : b.grownBy c r) : a.grownBy c r :=
  ⟨k.os.trans h.os, k.tape.trans h.tape, k.output.trans h.output, Nat.le_trans h.size k.size, fun i hi hr => (k.block i (Nat.lt_of_lt_of_le hi h.size) hr).trans (h.block i hi hr)⟩
theorem gbelow {w w' : World} {B : Nat} (r : Option Nat) (h : Below B w w') (hB : w.heap.size ≤ B) : w.grownBy w' r :=
  ⟨h.os, h.tape, h.output, h.size, fun i hi _ => h.block i (by omega)⟩
theorem gset (w : World) (B o : Nat) (v : Value) : w.grownBy (w.setCell ⟨B, o, none⟩ v) (some B) :=
  ⟨rfl, rfl, rfl, by simp, fun _ _ hne => Below.heap_setCell _ _ _ _ (fun e => hne (by rw [e]))⟩

/-- All but two blocks are as they were. -/
structure F2 (g q : Nat) (w w' : World) : Prop where
  os : w'.os = w.os
  tape : w'.tape = w.tape
  output : w'.output = w.output
  size : w.heap.size ≤ w'.heap.size
  block : ∀ i, i < w.heap.size → i ≠ g → i ≠ q → w'.heap[i]? = w.heap[i]?
theorem F2.trans {g q : Nat} {a b c : World} (h : F2 g q a b) (k : F2 g q b c) : F2 g q a c := ⟨k.os.trans h.os, k.tape.trans h.tape, k.output.trans h.output, Nat.le_trans h.size k.size, fun i hi h1 h2 => (k.block i (Nat.lt_of_lt_of_le hi h.size) h1 h2).trans (h.block i hi h1 h2)⟩
theorem F2.below {g q : Nat} {w w' : World} (h : Below w.heap.size w w') : F2 g q w w' := ⟨h.os, h.tape, h.output, h.size, fun i hi _ _ => h.block i hi⟩
theorem F2.left {g q : Nat} {w w' : World} (h : w.grownBy w' (some g)) : F2 g q w w' := ⟨h.os, h.tape, h.output, h.size, fun i hi h1 _ => h.block i hi (fun e => h1 (by injection e))⟩
theorem F2.right {g q : Nat} {w w' : World} (h : w.grownBy w' (some q)) : F2 g q w w' := ⟨h.os, h.tape, h.output, h.size, fun i hi _ h2 => h.block i hi (fun e => h2 (by injection e))⟩
theorem F2.to {g q B : Nat} {w w' : World} (h : F2 g q w w') (b1 : B ≤ g) (b2 : B ≤ q) (b3 : B ≤ w.heap.size) : Below B w w' := ⟨h.os, h.tape, h.output, h.size, fun i hi => h.block i (by omega) (by omega) (by omega)⟩

theorem cput_any (q : Nat) (nm : ByteArray) (n : Int) (w : World) (h : w.heap[q]? = some (.cells (chC false ⟨#[]⟩ 0) 311 (0, 0))) :
    Calls Tryz.prog 244 #[.pointer (some ⟨q, 0, none⟩), .agg #[.string nm, .int .i64 n]] w fun r w' => r = .returned (.tuple #[]) ∧ w'.heap[q]? = some (.cells (chC true nm n) 311 (0, 0)) ∧ w.grownBy w' (some q) := by
  have c0 : w.cell? ⟨q, 0, none⟩ = some (.bool false) := blk_cell h rfl
  have c1 : w.cell? ⟨q, 1, none⟩ = some (.string ⟨#[]⟩) := blk_cell h rfl
  have c2 : w.cell? ⟨q, 2, none⟩ = some (.int .i64 0) := blk_cell h rfl
  have c4 : w.cell? ⟨q, 4, none⟩ = some (.int .i64 0) := blk_cell h rfl
  have f0 := blk_froz h (i := 0)
  have f1 := blk_froz h (i := 1)
  have f2 := blk_froz h (i := 2)
  have hq := blk_lt h
  have H := Lib.hid h
  clear h
  go_enter Tryz.func244, Tryz.ntmps244
  go_wp2
  go_region
  go_wp2
  refine bodyPost_ret (v := .tuple #[]) (by simp [results, Tryz.results244, go_sem]) rfl ⟨rfl, ?_, ?_⟩
  · show (World.alloc _ _).heap[q]? = _
    rw [old2 _ _ (by simpa using hq)]
    exact blk_set (blk_set (blk_set H.out))
  · exact gtrans (gtrans (gtrans (gset w q 0 _) (gset _ q 1 _)) (gset _ q 2 _)) (gbelow _ (oalloc _ _).drew (Nat.le_refl _))

/-- What the chain's put leaves of the Part. -/
theorem putWhole_any (g q : Nat) (a : ByteArray) (ha : a = ⟨#[]⟩ ∨ a = ⟨#[45]⟩) (b : Bool) (ev : Value) (u : Bool) (e : Int) (nm : ByteArray) (n : Int) (w : World) (h : PR w g q a b ev u e false ⟨#[]⟩ 0) :
    Calls Tryz.prog 232 #[.pointer (some ⟨g, 0, none⟩), .agg #[.string nm, .int .i64 n]] w fun r w' => r = .returned (.tuple #[]) ∧ PR w' g q ⟨#[]⟩ true ev u e true nm n ∧ F2 g q w w' := by
  have c0 : w.cell? ⟨g, 0, none⟩ = some (.string a) := blk_cell h.pt rfl
  have c1 : w.cell? ⟨g, 1, none⟩ = some (.bool b) := blk_cell h.pt rfl
  have f0 := blk_froz h.pt (i := 0)
  have f1 := blk_froz h.pt (i := 1)
  have hq := blk_lt h.pt
  have HW := Lib.hid (within_any a ha)
  have H := Lib.hid h
  clear h
  go_enter Tryz.func232, Tryz.ntmps232
  go_wp2_with (go_at_call 234; refine (HW.out _).mono ?_; rintro e w1 ⟨rfl, rfl⟩)
  have hc : (((w.setCell ⟨g, 0, none⟩ (.string ⟨#[]⟩)).setCell ⟨g, 1, none⟩ (.bool true)).alloc (.cells #[.string nm, .int .i64 n] 143)).heap[w.heap.size]? = some (.cells #[.string nm, .int .i64 n] 143 (0, 0)) := new_at _ _ (by simp)
  have HP : Hid (PR (((w.setCell ⟨g, 0, none⟩ (.string ⟨#[]⟩)).setCell ⟨g, 1, none⟩ (.bool true)).alloc (.cells #[.string nm, .int .i64 n] 143)) g q ⟨#[]⟩ true ev u e false ⟨#[]⟩ 0) := by
    refine ⟨?_, ?_⟩
    · rw [old2 _ _ (by simpa using hq)]
      exact blk_set (blk_set H.out.pt)
    · rw [old2 _ _ (by simpa using blk_lt H.out.ch), Below.heap_setCell _ _ _ _ H.out.ne.symm, Below.heap_setCell _ _ _ _ H.out.ne.symm]
      exact H.out.ch
  have HB : Hid (F2 g q w (((w.setCell ⟨g, 0, none⟩ (.string ⟨#[]⟩)).setCell ⟨g, 1, none⟩ (.bool true)).alloc (.cells #[.string nm, .int .i64 n] 143))) := ((F2.left (gset w g 0 _)).trans (F2.left (gset _ g 1 _))).trans (F2.below (oalloc _ _))
  have hz : (((w.setCell ⟨g, 0, none⟩ (.string ⟨#[]⟩)).setCell ⟨g, 1, none⟩ (.bool true)).alloc (.cells #[.string nm, .int .i64 n] 143)).heap.size = w.heap.size + 1 := by simp
  generalize (((w.setCell ⟨g, 0, none⟩ (.string ⟨#[]⟩)).setCell ⟨g, 1, none⟩ (.bool true)).alloc (.cells #[.string nm, .int .i64 n] 143)) = W at *
  have d0 : W.cell? ⟨w.heap.size, 0, none⟩ = some (.string nm) := blk_cell hc rfl
  have d1 : W.cell? ⟨w.heap.size, 1, none⟩ = some (.int .i64 n) := blk_cell hc rfl
  clear hc c0 c1 f0 f1 HW H
  have HLA : Hid (∀ W', Below W.heap.size W W' → Calls Tryz.prog 237 #[.pointer (some ⟨g, 0, none⟩)] W' fun r w' => r = .returned (.pointer (some ⟨q, 0, none⟩)) ∧ Below W.heap.size W w') := fun W' hb => by
    refine (last_any g q W' (blk_cell (HP.out.go hb).pt rfl)).mono ?_
    rintro r w' ⟨rfl, h⟩
    exact ⟨rfl, hb.trans (h.mono hb.size)⟩
  have HCP : Hid (∀ W', Below W.heap.size W W' → Calls Tryz.prog 244 #[.pointer (some ⟨q, 0, none⟩), .agg #[.string nm, .int .i64 n]] W' fun r w' => r = .returned (.tuple #[]) ∧ PR w' g q ⟨#[]⟩ true ev u e true nm n ∧ F2 g q w w') := fun W' hb => by
    refine (cput_any q nm n W' (HP.out.go hb).ch).mono ?_
    rintro r w' ⟨rfl, h1, h2⟩
    refine ⟨rfl, ⟨?_, h1⟩, ?_⟩
    · rw [h2.block g (blk_lt (HP.out.go hb).pt) (by intro e; injection e with e; exact HP.out.ne e)]
      exact (HP.out.go hb).pt
    · exact (HB.out.trans (F2.below hb)).trans (F2.right h2)
  go_region_with (first | (go_at_call 237; refine (HLA.out _ (Below.refl _ _).drew).mono ?_; rintro r w2 ⟨rfl, hb2⟩; have d0' : w2.cell? ⟨w.heap.size, 0, none⟩ = some (.string nm) := (hb2.cell (by show w.heap.size < W.heap.size; omega)).trans d0; have d1' : w2.cell? ⟨w.heap.size, 1, none⟩ = some (.int .i64 n) := (hb2.cell (by show w.heap.size < W.heap.size; omega)).trans d1) | (go_at_call 244; refine (HCP.out _ hb2).mono ?_; rintro r w3 ⟨rfl, hp3, hb3⟩))
  all_goals exact bodyPost_end (v := .tuple #[]) (by simp [results, Tryz.results232, go_sem]) rfl ⟨rfl, hp3, hb3⟩

end Go.Proofs.YtjmjhbdlbmnllaaGreatDoor
