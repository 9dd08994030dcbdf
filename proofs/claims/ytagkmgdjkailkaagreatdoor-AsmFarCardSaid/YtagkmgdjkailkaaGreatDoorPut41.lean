/- asm: an instruction that leads, made; a value of a pool asked for. asm: instructions kept. asm: a load off the pool. -/
import Derived.Test.YtagkmgdjkailkaaGreatDoorPut33
import Derived.Test.YtagkmgdjkailkaaGreatDoorPut39
import Derived.Test.YtagkmgdjkailkaaGreatDoorPut35
namespace Go.Proofs.YtagkmgdjkailkaaGreatDoor
open Go.RowKit

theorem var6_of {w : World} {R : Nat} {a b c d e f : Value} {t : TypeId} (h : w.heap[R]? = some (.cells #[a, b, c, d, e, f] t (0, 0))) : ((w.cell? ⟨R, 0, none⟩ = some a ∧ w.cell? ⟨R, 1, none⟩ = some b ∧ w.cell? ⟨R, 2, none⟩ = some c) ∧ (w.cell? ⟨R, 3, none⟩ = some d ∧ w.cell? ⟨R, 4, none⟩ = some e ∧ w.cell? ⟨R, 5, none⟩ = some f)) ∧ (w.frozen? ⟨R, 0, none⟩ = false ∧ w.frozen? ⟨R, 1, none⟩ = false ∧ w.frozen? ⟨R, 2, none⟩ = false) ∧ w.frozen? ⟨R, 3, none⟩ = false ∧ w.frozen? ⟨R, 4, none⟩ = false ∧ w.frozen? ⟨R, 5, none⟩ = false := by
  refine ⟨⟨⟨?_, ?_, ?_⟩, ?_, ?_, ?_⟩, ⟨?_, ?_, ?_⟩, ?_, ?_, ?_⟩ <;> simp [World.cell?, World.frozen?, h]

set_option maxHeartbeats 2000000 in
theorem leading_any (gu : Nat) (op n m imm : Int) (fn : Fn) (fa fc : Array Value) (w : World) (hL : Isa.Laid w) :
    Calls Tryz.prog 128 #[.pointer (some ⟨gu, 0, none⟩), .agg #[.int .i64 op, .int .i64 n, .int .i64 m, .int .i64 imm], .func fn fa fc] w fun r w' =>
      (∃ gt gi, r = .returned (itV 0 2 1 2 (if Isa.infoShape op = 4 then .func (.func 162) #[] #[.pointer (some ⟨gt, 0, none⟩)] else .nilFunc) (.func (.func 157) #[] #[.pointer (some ⟨gt, 0, none⟩), .pointer (some ⟨gi, 0, none⟩)]))
        ∧ w'.heap[gt]? = some (.cells #[.func fn fa fc] 210 (0, 0)) ∧ w'.heap[gi]? = some (.cells #[.int .i64 op, .int .i64 n, .int .i64 m, .int .i64 imm] 37 (0, 0))) ∧ Below w.heap.size w w' := by
  have HI := Lib.hid fun W (hb : Below w.heap.size w W) => Isa.info_any op W (hL.below hb hL.sz)
  generalize Isa.infoShape op = sh at *
  generalize Isa.infoName op = nm at *
  clear hL
  unfold itV
  by_cases h4 : sh = 4
  · subst h4
    simp only [↓reduceIte]
    go_enter Tryz.func128, Tryz.ntmps128
    go_wp2_with fail
    refine (HI.out _ (by go_grown)).mono ?_
    rintro e w1 ⟨rfl, hb1⟩
    have xi : w1.heap[w.heap.size]? = some (.cells #[.int .i64 op, .int .i64 n, .int .i64 m, .int .i64 imm] 37 (0, 0)) := by
      rw [hb1.block _ (by go_size), old2 _ _ (by go_size), old2 _ _ (by go_size), old2 _ _ (by go_size)]; exact new_at _ _ rfl
    have xt : w1.heap[w.heap.size + 1]? = some (.cells #[.func fn fa fc] 210 (0, 0)) := by
      rw [hb1.block _ (by go_size), old2 _ _ (by go_size), old2 _ _ (by go_size)]; exact new_at _ _ (by go_size)
    have xr : w1.heap[w.heap.size + 1 + 1]? = some (.cells #[.int .i64 0, .int .i64 0, .int .i64 0, .int .i64 0, .nilFunc, .nilFunc] 131 (0, 0)) := by
      rw [hb1.block _ (by go_size), old2 _ _ (by go_size)]; exact new_at _ _ (by go_size)
    have xx : w1.heap[w.heap.size + 1 + 1 + 1]? = some (.cells #[.int .i64 0, .int .i64 2, .int .i64 1, .int .i64 2, .nilFunc, .func (.func 157) #[] #[.pointer (some ⟨w.heap.size + 1, 0, none⟩), .pointer (some ⟨w.heap.size, 0, none⟩)]] 131 (0, 0)) := by
      rw [hb1.block _ (by go_size)]; exact new_at _ _ (by go_size)
    have HB1 : Hid (Below w.heap.size w w1) := Below.trans (by go_grown) (hb1.mono (by go_size))
    obtain ⟨⟨⟨a0, a1, a2⟩, a3, a4, a5⟩, ⟨e0, e1, e2⟩, e3, e4, e5⟩ := var6_of xr
    obtain ⟨⟨⟨b0, b1, b2⟩, b3, b4, b5⟩, ⟨g0, g1, g2⟩, g3, g4, g5⟩ := var6_of xx
    have hz := blk_lt xx
    have XI := Lib.hid xi
    have XT := Lib.hid xt
    clear hb1 xi xt xr xx HI
    go_wp2_with fail
    refine bodyPost_ret (v := .agg #[.int .i64 0, .int .i64 2, .int .i64 1, .int .i64 2, .func (.func 162) #[] #[.pointer (some ⟨w.heap.size + 1, 0, none⟩)], .func (.func 157) #[] #[.pointer (some ⟨w.heap.size + 1, 0, none⟩), .pointer (some ⟨w.heap.size, 0, none⟩)]]) (by simp [results, Tryz.results128, go_sem, a0, a1, a2, a3, a4, a5]) rfl ⟨⟨w.heap.size + 1, w.heap.size, rfl, ?_, ?_⟩, ?_⟩
    · rw [Below.heap_setCell _ _ _ _ (by show w.heap.size + 1 ≠ w.heap.size + 1 + 1; omega), Below.heap_setCell _ _ _ _ (by show w.heap.size + 1 ≠ w.heap.size + 1 + 1; omega), Below.heap_setCell _ _ _ _ (by show w.heap.size + 1 ≠ w.heap.size + 1 + 1; omega), Below.heap_setCell _ _ _ _ (by show w.heap.size + 1 ≠ w.heap.size + 1 + 1; omega), Below.heap_setCell _ _ _ _ (by show w.heap.size + 1 ≠ w.heap.size + 1 + 1; omega), Below.heap_setCell _ _ _ _ (by show w.heap.size + 1 ≠ w.heap.size + 1 + 1; omega), Below.heap_setCell _ _ _ _ (by show w.heap.size + 1 ≠ w.heap.size + 1 + 1 + 1; omega)]
      exact XT.out
    · rw [Below.heap_setCell _ _ _ _ (by show w.heap.size ≠ w.heap.size + 1 + 1; omega), Below.heap_setCell _ _ _ _ (by show w.heap.size ≠ w.heap.size + 1 + 1; omega), Below.heap_setCell _ _ _ _ (by show w.heap.size ≠ w.heap.size + 1 + 1; omega), Below.heap_setCell _ _ _ _ (by show w.heap.size ≠ w.heap.size + 1 + 1; omega), Below.heap_setCell _ _ _ _ (by show w.heap.size ≠ w.heap.size + 1 + 1; omega), Below.heap_setCell _ _ _ _ (by show w.heap.size ≠ w.heap.size + 1 + 1; omega), Below.heap_setCell _ _ _ _ (by show w.heap.size ≠ w.heap.size + 1 + 1 + 1; omega)]
      exact XI.out
    · exact (((((((HB1.out.setCell (p := ⟨w.heap.size + 1 + 1 + 1, 4, none⟩) (by show w.heap.size ≤ w.heap.size + 1 + 1 + 1; omega) _).setCell (p := ⟨w.heap.size + 1 + 1, 0, none⟩) (by show w.heap.size ≤ w.heap.size + 1 + 1; omega) _).setCell (p := ⟨w.heap.size + 1 + 1, 1, none⟩) (by show w.heap.size ≤ w.heap.size + 1 + 1; omega) _).setCell (p := ⟨w.heap.size + 1 + 1, 2, none⟩) (by show w.heap.size ≤ w.heap.size + 1 + 1; omega) _).setCell (p := ⟨w.heap.size + 1 + 1, 3, none⟩) (by show w.heap.size ≤ w.heap.size + 1 + 1; omega) _).setCell (p := ⟨w.heap.size + 1 + 1, 4, none⟩) (by show w.heap.size ≤ w.heap.size + 1 + 1; omega) _).setCell (p := ⟨w.heap.size + 1 + 1, 5, none⟩) (by show w.heap.size ≤ w.heap.size + 1 + 1; omega) _)
  · simp only [h4, ↓reduceIte]
    have h4' : (sh == 4) = false := beq_eq_false_iff_ne.2 h4
    go_enter Tryz.func128, Tryz.ntmps128
    go_wp2_with fail
    refine (HI.out _ (by go_grown)).mono ?_
    rintro e w1 ⟨rfl, hb1⟩
    have xi : w1.heap[w.heap.size]? = some (.cells #[.int .i64 op, .int .i64 n, .int .i64 m, .int .i64 imm] 37 (0, 0)) := by
      rw [hb1.block _ (by go_size), old2 _ _ (by go_size), old2 _ _ (by go_size), old2 _ _ (by go_size)]; exact new_at _ _ rfl
    have xt : w1.heap[w.heap.size + 1]? = some (.cells #[.func fn fa fc] 210 (0, 0)) := by
      rw [hb1.block _ (by go_size), old2 _ _ (by go_size), old2 _ _ (by go_size)]; exact new_at _ _ (by go_size)
    have xr : w1.heap[w.heap.size + 1 + 1]? = some (.cells #[.int .i64 0, .int .i64 0, .int .i64 0, .int .i64 0, .nilFunc, .nilFunc] 131 (0, 0)) := by
      rw [hb1.block _ (by go_size), old2 _ _ (by go_size)]; exact new_at _ _ (by go_size)
    have xx : w1.heap[w.heap.size + 1 + 1 + 1]? = some (.cells #[.int .i64 0, .int .i64 2, .int .i64 1, .int .i64 2, .nilFunc, .func (.func 157) #[] #[.pointer (some ⟨w.heap.size + 1, 0, none⟩), .pointer (some ⟨w.heap.size, 0, none⟩)]] 131 (0, 0)) := by
      rw [hb1.block _ (by go_size)]; exact new_at _ _ (by go_size)
    have HB1 : Hid (Below w.heap.size w w1) := Below.trans (by go_grown) (hb1.mono (by go_size))
    obtain ⟨⟨⟨a0, a1, a2⟩, a3, a4, a5⟩, ⟨e0, e1, e2⟩, e3, e4, e5⟩ := var6_of xr
    obtain ⟨⟨⟨b0, b1, b2⟩, b3, b4, b5⟩, ⟨g0, g1, g2⟩, g3, g4, g5⟩ := var6_of xx
    have hz := blk_lt xx
    have XI := Lib.hid xi
    have XT := Lib.hid xt
    clear hb1 xi xt xr xx HI
    go_wp2_with fail
    refine bodyPost_ret (v := .agg #[.int .i64 0, .int .i64 2, .int .i64 1, .int .i64 2, .nilFunc, .func (.func 157) #[] #[.pointer (some ⟨w.heap.size + 1, 0, none⟩), .pointer (some ⟨w.heap.size, 0, none⟩)]]) (by simp [results, Tryz.results128, go_sem, a0, a1, a2, a3, a4, a5]) rfl ⟨⟨w.heap.size + 1, w.heap.size, rfl, ?_, ?_⟩, ?_⟩
    · rw [Below.heap_setCell _ _ _ _ (by show w.heap.size + 1 ≠ w.heap.size + 1 + 1; omega), Below.heap_setCell _ _ _ _ (by show w.heap.size + 1 ≠ w.heap.size + 1 + 1; omega), Below.heap_setCell _ _ _ _ (by show w.heap.size + 1 ≠ w.heap.size + 1 + 1; omega), Below.heap_setCell _ _ _ _ (by show w.heap.size + 1 ≠ w.heap.size + 1 + 1; omega), Below.heap_setCell _ _ _ _ (by show w.heap.size + 1 ≠ w.heap.size + 1 + 1; omega), Below.heap_setCell _ _ _ _ (by show w.heap.size + 1 ≠ w.heap.size + 1 + 1; omega)]
      exact XT.out
    · rw [Below.heap_setCell _ _ _ _ (by show w.heap.size ≠ w.heap.size + 1 + 1; omega), Below.heap_setCell _ _ _ _ (by show w.heap.size ≠ w.heap.size + 1 + 1; omega), Below.heap_setCell _ _ _ _ (by show w.heap.size ≠ w.heap.size + 1 + 1; omega), Below.heap_setCell _ _ _ _ (by show w.heap.size ≠ w.heap.size + 1 + 1; omega), Below.heap_setCell _ _ _ _ (by show w.heap.size ≠ w.heap.size + 1 + 1; omega), Below.heap_setCell _ _ _ _ (by show w.heap.size ≠ w.heap.size + 1 + 1; omega)]
      exact XI.out
    · exact ((((((HB1.out.setCell (p := ⟨w.heap.size + 1 + 1, 0, none⟩) (by show w.heap.size ≤ w.heap.size + 1 + 1; omega) _).setCell (p := ⟨w.heap.size + 1 + 1, 1, none⟩) (by show w.heap.size ≤ w.heap.size + 1 + 1; omega) _).setCell (p := ⟨w.heap.size + 1 + 1, 2, none⟩) (by show w.heap.size ≤ w.heap.size + 1 + 1; omega) _).setCell (p := ⟨w.heap.size + 1 + 1, 3, none⟩) (by show w.heap.size ≤ w.heap.size + 1 + 1; omega) _).setCell (p := ⟨w.heap.size + 1 + 1, 4, none⟩) (by show w.heap.size ≤ w.heap.size + 1 + 1; omega) _).setCell (p := ⟨w.heap.size + 1 + 1, 5, none⟩) (by show w.heap.size ≤ w.heap.size + 1 + 1; omega) _)

theorem infoV : (Tryz.prog.info? 134).map (fun i => (i.zero, i.size, i.bytes)) = some (some (.agg #[.string ⟨#[]⟩, .int .i64 0]), 2, 24) := by kernel_rfl
theorem chkV (e : Bool) (nm : ByteArray) (n : Int) (W : World) : (Instr.checkKey e 10000 134 (.agg #[.string nm, .int .i64 n])).run Tryz.prog W = .ok () W := by kernel_rfl
theorem fndV (nm : ByteArray) (n : Int) (W : World) : (Instr.findKey 134 (.agg #[.string nm, .int .i64 n]) []).run Tryz.prog W = .ok none W := by kernel_rfl
theorem look_empty (nm : ByteArray) (n : Int) (mi : Nat) (W : World) (h : W.heap[mi]? = some (.map #[] 0)) : (Instr.lookup 113 (.map (some mi)) (.agg #[.string nm, .int .i64 n]) true).run Tryz.prog W = .ok (.tuple #[.int .i64 0, .bool false]) W := by
  unfold Instr.lookup
  simp [Sem.run_bind, run_underlying Tryz.underlying113, MapKept.run_getObj_map h, chkV, fndV, Result.andThen]
theorem upd_empty (nm : ByteArray) (n v : Int) (mi : Nat) (W : World) (h : W.heap[mi]? = some (.map #[] 0)) : ∃ W', (Instr.mapUpdate 113 (.map (some mi)) (.agg #[.string nm, .int .i64 n]) (.int .i64 v)).run Tryz.prog W = .ok () W' ∧ W.grownBy W' (some mi) := by
  refine ⟨ChangeMaps.setBlock W mi (.map #[{ key := .agg #[.string nm, .int .i64 n], val := .int .i64 v, born := 0 }] 1), ?_, ⟨rfl, rfl, rfl, by simp [ChangeMaps.setBlock], fun i _ hi => ChangeMaps.heap_setBlock_other h _ (fun e => hi (by rw [e]))⟩⟩
  unfold Instr.mapUpdate
  simp [Sem.run_bind, run_underlying Tryz.underlying113, MapKept.run_getObj_map h, MapKept.run_setObj_map _ h, chkV, fndV, Result.andThen, ChangeMaps.setBlock]

set_option maxHeartbeats 16000000 in
/-- A value asked for where nothing was asked before: it is the pool's first. -/
theorem ask_first (gu gp mi : Nat) (f : Int) (nm : ByteArray) (n : Int) (w : World) (hu : w.cell? ⟨gu, 5, none⟩ = some (.pointer (some ⟨gp, 0, none⟩))) (hp : w.heap[gp]? = some (.cells #[.int .i64 f, .slice none 0 0, .map (some mi)] 116 (0, 0))) (hm : w.heap[mi]? = some (.map #[] 0)) :
    Calls Tryz.prog 129 #[.pointer (some ⟨gu, 0, none⟩), .agg #[.string nm, .int .i64 n]] w fun r w' =>
      (∃ gb gq gi, r = .returned (.func (.func 164) #[] #[.pointer (some ⟨gb, 0, none⟩), .pointer (some ⟨gq, 0, none⟩), .pointer (some ⟨gi, 0, none⟩)]) ∧ w'.heap[gb]? = some (.cells #[.pointer (some ⟨gu, 0, none⟩)] 117 (0, 0)) ∧ w'.heap[gq]? = some (.cells #[.pointer (some ⟨gp, 0, none⟩)] 75 (0, 0)) ∧ w'.heap[gi]? = some (.cells #[.int .i64 (0 : Nat)] 3 (0, 0)))
      ∧ (∃ va vc, w'.heap[gp]? = some (.cells #[.int .i64 f, .slice va 1 vc, .map (some mi)] 116 (0, 0)) ∧ w'.ownsRow w.heap.size 134 2 (.slice va 1 vc) 1 [.string nm, .int .i64 n]) ∧ Ch gp (some mi) w w' := by
  have cp2 : w.cell? ⟨gp, 2, none⟩ = some (.map (some mi)) := blk_cell hp rfl
  have cp1 : w.cell? ⟨gp, 1, none⟩ = some (.slice none 0 0) := blk_cell hp rfl
  have hg : gu < w.heap.size := World.block_lt_of_cell? w _ hu
  have hgp := blk_lt hp
  have hmi := blk_lt hm
  have hm3 : (((w.alloc (.cells #[.pointer (some ⟨gu, 0, none⟩)] 117)).alloc (.cells #[.string nm, .int .i64 n] 134)).alloc (.cells #[.pointer (some ⟨gp, 0, none⟩)] 75)).heap[mi]? = some (.map #[] 0) := by
    rw [old2 _ _ (by go_size), old2 _ _ (by go_size), old2 _ _ (by go_size)]; exact hm
  have hm4 : ((((w.alloc (.cells #[.pointer (some ⟨gu, 0, none⟩)] 117)).alloc (.cells #[.string nm, .int .i64 n] 134)).alloc (.cells #[.pointer (some ⟨gp, 0, none⟩)] 75)).alloc (.cells #[.int .i64 0] 3)).heap[mi]? = some (.map #[] 0) := by rw [old2 _ _ (by go_size)]; exact hm3
  have hlk3 : (Instr.lookup 113 (.map (some mi)) (.agg #[.string nm, .int .i64 n]) true).run Tryz.prog (((w.alloc (.cells #[.pointer (some ⟨gu, 0, none⟩)] 117)).alloc (.cells #[.string nm, .int .i64 n] 134)).alloc (.cells #[.pointer (some ⟨gp, 0, none⟩)] 75)).drew = .ok (.tuple #[.int .i64 0, .bool false]) (((w.alloc (.cells #[.pointer (some ⟨gu, 0, none⟩)] 117)).alloc (.cells #[.string nm, .int .i64 n] 134)).alloc (.cells #[.pointer (some ⟨gp, 0, none⟩)] 75)).drew := look_empty nm n mi _ hm3
  have hlk4 : (Instr.lookup 113 (.map (some mi)) (.agg #[.string nm, .int .i64 n]) true).run Tryz.prog ((((w.alloc (.cells #[.pointer (some ⟨gu, 0, none⟩)] 117)).alloc (.cells #[.string nm, .int .i64 n] 134)).alloc (.cells #[.pointer (some ⟨gp, 0, none⟩)] 75)).alloc (.cells #[.int .i64 0] 3)).drew = .ok (.tuple #[.int .i64 0, .bool false]) ((((w.alloc (.cells #[.pointer (some ⟨gu, 0, none⟩)] 117)).alloc (.cells #[.string nm, .int .i64 n] 134)).alloc (.cells #[.pointer (some ⟨gp, 0, none⟩)] 75)).alloc (.cells #[.int .i64 0] 3)).drew := look_empty nm n mi _ hm4
  have zp1 : gp < w.heap.size + 1 := by omega
  have zp2 : gp < w.heap.size + 1 + 1 := by omega
  have zp3 : gp < w.heap.size + 1 + 1 + 1 := by omega
  have zu1 : gu < w.heap.size + 1 := by omega
  have zu2 : gu < w.heap.size + 1 + 1 := by omega
  have zu3 : gu < w.heap.size + 1 + 1 + 1 := by omega
  go_enter Tryz.func129, Tryz.ntmps129
  go_wp2_with fail
  go_region
  all_goals go_wp2_with fail
  all_goals
    have xb : ((((w.alloc (.cells #[.pointer (some ⟨gu, 0, none⟩)] 117)).alloc (.cells #[.string nm, .int .i64 n] 134)).alloc (.cells #[.pointer (some ⟨gp, 0, none⟩)] 75)).alloc (.cells #[.int .i64 0] 3)).drew.heap[w.heap.size]? = some (.cells #[.pointer (some ⟨gu, 0, none⟩)] 117 (0, 0)) := by
      show (World.alloc _ _).heap[w.heap.size]? = _
      rw [old2 _ _ (by go_size), old2 _ _ (by go_size), old2 _ _ (by go_size)]; exact new_at _ _ rfl
    have xv : ((((w.alloc (.cells #[.pointer (some ⟨gu, 0, none⟩)] 117)).alloc (.cells #[.string nm, .int .i64 n] 134)).alloc (.cells #[.pointer (some ⟨gp, 0, none⟩)] 75)).alloc (.cells #[.int .i64 0] 3)).drew.heap[w.heap.size + 1]? = some (.cells #[.string nm, .int .i64 n] 134 (0, 0)) := by
      show (World.alloc _ _).heap[w.heap.size + 1]? = _
      rw [old2 _ _ (by go_size), old2 _ _ (by go_size)]; exact new_at _ _ (by go_size)
    have xq : ((((w.alloc (.cells #[.pointer (some ⟨gu, 0, none⟩)] 117)).alloc (.cells #[.string nm, .int .i64 n] 134)).alloc (.cells #[.pointer (some ⟨gp, 0, none⟩)] 75)).alloc (.cells #[.int .i64 0] 3)).drew.heap[w.heap.size + 1 + 1]? = some (.cells #[.pointer (some ⟨gp, 0, none⟩)] 75 (0, 0)) := by
      show (World.alloc _ _).heap[w.heap.size + 1 + 1]? = _
      rw [old2 _ _ (by go_size)]; exact new_at _ _ (by go_size)
    have xi : ((((w.alloc (.cells #[.pointer (some ⟨gu, 0, none⟩)] 117)).alloc (.cells #[.string nm, .int .i64 n] 134)).alloc (.cells #[.pointer (some ⟨gp, 0, none⟩)] 75)).alloc (.cells #[.int .i64 0] 3)).drew.heap[w.heap.size + 1 + 1 + 1]? = some (.cells #[.int .i64 0] 3 (0, 0)) := new_at _ _ (by go_size)
    have hBV : Below w.heap.size w ((((w.alloc (.cells #[.pointer (some ⟨gu, 0, none⟩)] 117)).alloc (.cells #[.string nm, .int .i64 n] 134)).alloc (.cells #[.pointer (some ⟨gp, 0, none⟩)] 75)).alloc (.cells #[.int .i64 0] 3)).drew := (((((oalloc w _).alloc (by go_size) _).alloc (by go_size) _).alloc (by go_size) _)).drew
    have hmV : ((((w.alloc (.cells #[.pointer (some ⟨gu, 0, none⟩)] 117)).alloc (.cells #[.string nm, .int .i64 n] 134)).alloc (.cells #[.pointer (some ⟨gp, 0, none⟩)] 75)).alloc (.cells #[.int .i64 0] 3)).drew.heap[mi]? = some (.map #[] 0) := hm4
    obtain ⟨V, hV⟩ : ∃ V, V = ((((w.alloc (.cells #[.pointer (some ⟨gu, 0, none⟩)] 117)).alloc (.cells #[.string nm, .int .i64 n] 134)).alloc (.cells #[.pointer (some ⟨gp, 0, none⟩)] 75)).alloc (.cells #[.int .i64 0] 3)).drew := ⟨_, rfl⟩
    rw [← hV] at xb xv xq xi hBV hmV ⊢
    have xp := (hBV.block _ hgp).trans hp
    clear hm3 hm4 hlk3 hlk4 hV
    obtain ⟨W5, hup, hg5⟩ := upd_empty nm n 0 mi V.drew hmV
    have kp : ∀ {q : Nat} {c : Array Value} {t : TypeId}, V.heap[q]? = some (.cells c t (0, 0)) → W5.heap[q]? = some (.cells c t (0, 0)) := fun {q c t} hq => (hg5.block q (blk_lt hq) (by intro e; injection e with e; subst e; rw [hmV] at hq; cases hq)).trans hq
    have XB := Lib.hid (kp xb)
    have XV := Lib.hid (kp xv)
    have XQ := Lib.hid (kp xq)
    have XI := Lib.hid (kp xi)
    have XP := Lib.hid (kp xp)
    have v0 : V.cell? ⟨w.heap.size + 1, 0, none⟩ = some (.string nm) := blk_cell xv rfl
    have v1 : V.cell? ⟨w.heap.size + 1, 1, none⟩ = some (.int .i64 n) := blk_cell xv rfl
    have vq : V.cell? ⟨w.heap.size + 1 + 1, 0, none⟩ = some (.pointer (some ⟨gp, 0, none⟩)) := blk_cell xq rfl
    have vi : V.cell? ⟨w.heap.size + 1 + 1 + 1, 0, none⟩ = some (.int .i64 0) := blk_cell xi rfl
    have vp : V.cell? ⟨gp, 2, none⟩ = some (.map (some mi)) := blk_cell xp rfl
    have zv := blk_lt xv
    have zq := blk_lt xq
    have zi := blk_lt xi
    have zp := blk_lt xp
    have HC5 : Hid (Ch gp (some mi) w W5) := ⟨hg5.os.trans hBV.os, hg5.tape.trans hBV.tape, hg5.output.trans hBV.output, Nat.le_trans hBV.size hg5.size, fun i hi _ h2 => by rw [hg5.block i (Nat.lt_of_lt_of_le hi hBV.size) h2]; exact hBV.block i hi⟩
    have hz5 : w.heap.size ≤ W5.heap.size := Nat.le_trans hBV.size hg5.size
    clear xb xv xq xi xp hBV hg5 kp hmV
    go_region
    all_goals go_wp2_with fail
    all_goals
      have hrow : ((W5.alloc (.cells #[.string nm, .int .i64 n] 134)).drew).ownsRow w.heap.size 134 2 (.slice none 0 0) 0 [] := World.ownsRow_nil _ _ _ _
      obtain ⟨v', w', happ, hr', hgr⟩ := app1 114 134 _ 2 24 Tryz.underlying114 infoV rfl (by decide) (by decide) hrow (by simp; omega) [.string nm, .int .i64 n] rfl W5.heap.size (new_at _ _ rfl) (by intro u hu; simp at hu; rcases hu with rfl | rfl <;> rfl) (by omega)
      have kq : ∀ {q : Nat} {o : Obj}, W5.heap[q]? = some o → w'.heap[q]? = some o := fun {q o} hq => (hgr.block q (by have := blk_lt hq; simp; omega) (by simp [Value.ownBlock])).trans ((old2 _ _ (blk_lt hq)).trans hq)
      have p1 : W5.cell? ⟨gp, 1, none⟩ = some (.slice none 0 0) := blk_cell XP.out rfl
      have q1 : W5.cell? ⟨w.heap.size + 1 + 1, 0, none⟩ = some (.pointer (some ⟨gp, 0, none⟩)) := blk_cell XQ.out rfl
      have s0 : W5.cell? ⟨w.heap.size + 1, 0, none⟩ = some (.string nm) := blk_cell XV.out rfl
      have s1 : W5.cell? ⟨w.heap.size + 1, 1, none⟩ = some (.int .i64 n) := blk_cell XV.out rfl
      have y1 : w'.cell? ⟨gp, 1, none⟩ = some (.slice none 0 0) := blk_cell (kq XP.out) rfl
      have y2 : w'.cell? ⟨w.heap.size + 1 + 1, 0, none⟩ = some (.pointer (some ⟨gp, 0, none⟩)) := blk_cell (kq XQ.out) rfl
      have yf : w'.frozen? ⟨gp, 1, none⟩ = false := blk_froz (kq XP.out)
      have z1 := blk_lt XP.out
      have z2 := blk_lt XQ.out
      have z3 := blk_lt XV.out
      have z4 := blk_lt (kq XP.out)
      have z5 := blk_lt (kq XQ.out)
      obtain ⟨va, vc, rfl⟩ := row_shape hr'
      have HFIN : Hid (((w'.setCell ⟨gp, 1, none⟩ (.slice va 1 vc)).heap[w.heap.size]? = some (.cells #[.pointer (some ⟨gu, 0, none⟩)] 117 (0, 0)) ∧ (w'.setCell ⟨gp, 1, none⟩ (.slice va 1 vc)).heap[w.heap.size + 1 + 1]? = some (.cells #[.pointer (some ⟨gp, 0, none⟩)] 75 (0, 0)) ∧ (w'.setCell ⟨gp, 1, none⟩ (.slice va 1 vc)).heap[w.heap.size + 1 + 1 + 1]? = some (.cells #[.int .i64 (0 : Nat)] 3 (0, 0))) ∧ ((w'.setCell ⟨gp, 1, none⟩ (.slice va 1 vc)).heap[gp]? = some (.cells #[.int .i64 f, .slice va 1 vc, .map (some mi)] 116 (0, 0)) ∧ (w'.setCell ⟨gp, 1, none⟩ (.slice va 1 vc)).ownsRow w.heap.size 134 2 (.slice va 1 vc) 1 [.string nm, .int .i64 n]) ∧ Ch gp (some mi) w (w'.setCell ⟨gp, 1, none⟩ (.slice va 1 vc))) := by
        refine ⟨⟨?_, ?_, ?_⟩, ⟨blk_set (kq XP.out), row_set hr' hgp⟩, ?_⟩
        · rw [Below.heap_setCell _ _ _ _ (by show w.heap.size ≠ gp; omega)]; exact kq XB.out
        · rw [Below.heap_setCell _ _ _ _ (by show w.heap.size + 1 + 1 ≠ gp; omega)]; exact kq XQ.out
        · rw [Below.heap_setCell _ _ _ _ (by show w.heap.size + 1 + 1 + 1 ≠ gp; omega)]; exact kq XI.out
        · have hS := gset w' gp 1 (.slice va 1 vc)
          refine ⟨hS.os.trans (hgr.os.trans HC5.out.os), hS.tape.trans (hgr.tape.trans HC5.out.tape), hS.output.trans (hgr.output.trans HC5.out.output), ?_, fun i hi h1 h2 => ?_⟩
          · have := hgr.size; have := HC5.out.size; simp at *; omega
          · rw [Below.heap_setCell _ _ _ _ h1, hgr.block i (by have := HC5.out.size; simp; omega) (by simp [Value.ownBlock])]
            exact (old2 _ _ (Nat.lt_of_lt_of_le hi HC5.out.size)).trans (HC5.out.block i hi h1 h2)
      clear hrow hr' hgr kq XB XV XQ XI XP HC5
      go_region_law (refine step_app1 rfl _ _ _ _ rfl _ _ rfl rfl happ ?_)
      all_goals
        go_wp2_with fail
        go_ret
        exact ⟨⟨w.heap.size, w.heap.size + 1 + 1, w.heap.size + 1 + 1 + 1, rfl, HFIN.out.1.1, HFIN.out.1.2.1, HFIN.out.1.2.2⟩, ⟨va, vc, HFIN.out.2.1⟩, HFIN.out.2.2⟩

end Go.Proofs.YtagkmgdjkailkaaGreatDoor

namespace Go.Proofs.YtagkmgdjkailkaaGreatDoor
open Go.RowKit

/-- Blocks that are neither a unit nor a row of items are as they were. -/
def KeepM (W W' : World) : Prop := W.heap.size ≤ W'.heap.size ∧ ∀ (q : Nat) (o : Obj), W.heap[q]? = some o → (∀ c f, o ≠ .cells c 79 f) → (∀ c f, o ≠ .cells c 131 f) → W'.heap[q]? = some o
theorem KeepM.of {W W' : World} (h : Below W.heap.size W W') : KeepM W W' := ⟨h.size, fun q o hb _ _ => by rw [h.block q (blk_lt hb)]; exact hb⟩
theorem KeepM.trans {A B C : World} (h : KeepM A B) (k : KeepM B C) : KeepM A C := ⟨Nat.le_trans h.1 k.1, fun q o hb h1 h2 => k.2 q o (h.2 q o hb h1 h2) h1 h2⟩

/-- An item, with its functions, is added: what stays (as uadd_any, and more of what is kept). -/
theorem uadd_more (gu B : Nat) (e nv lm pp pv rv fa by' : Value) (ln li : Int) (x : It) (its : List It) (w : World) (h : UR w B gu e ln nv lm pp pv rv its) (hx : x.line = ln) (hg : GenR w gu x fa by') (hn : its.length ≤ 100000) :
    Calls Tryz.prog 47 #[.pointer (some ⟨gu, 0, none⟩), itV li x.size x.upTo x.align fa by'] w fun r w' => r = .returned (.tuple #[]) ∧ UR w' B gu e ln nv lm pp pv rv (its ++ [x]) ∧ Fr gu B w w' ∧ KeepM w w' := by
  obtain ⟨iv, l, h1, h2, h3, h4⟩ := h.its
  obtain ⟨hfa, hby⟩ := hg.shape
  refine (add_any gu B its.length e nv lm iv pp pv rv fa by' ln li x.size x.upTo x.align (itC l) w h.le h1 h2 h.lt hn hfa hby).mono ?_
  rintro r w' ⟨rfl, ⟨iv', k1, k2⟩, k3, k4⟩
  have hk : KeepM w w' := ⟨k3.size, fun q o hb t1 t2 => by
    rw [k4 q (blk_lt hb) (by rintro rfl; rw [h1] at hb; injection hb with hb; exact t1 _ _ hb.symm) (by
      rcases h2.2 with ⟨h5, _⟩ | ⟨g, cap, cur, h5, h6, h7, _⟩
      · rw [h5]; simp [Value.ownBlock]
      · rw [h5]
        intro e0
        have e1 : q = g := by simpa [Value.ownBlock] using e0
        subst e1
        rw [h7] at hb
        injection hb with hb
        exact t2 _ _ hb.symm)]
    exact hb⟩
  have hku : KeepU w w' := ⟨hk.1, fun q c t f hb ht => hk.2 q _ hb (by rintro c' f' e0; injection e0 with _ e1; subst e1; exact absurd ht (by decide)) (by rintro c' f' e0; injection e0 with _ e1; subst e1; exact absurd ht (by decide))⟩
  refine ⟨rfl, ⟨h.lt, Nat.le_trans h.le k3.size, iv', l ++ [(x, fa, by')], k1, ?_, by simp [h3], ?_⟩, k3, hk⟩
  · have e1 : itC (l ++ [(x, fa, by')]) = itC l ++ [.int .i64 ln, .int .i64 x.size, .int .i64 x.upTo, .int .i64 x.align, fa, by'] := by simp [itC, hx]
    rw [e1, List.length_append]
    exact k2
  · intro p hp
    rcases List.mem_append.1 hp with hp | hp
    · exact (h4 p hp).keep hku
    · simp only [List.mem_singleton] at hp
      subst hp
      exact hg.keep hku

set_option maxHeartbeats 4000000 in
/-- An instruction that is whole. -/
theorem instr_plain (gu B : Nat) (e nv lm pp pv rv : Value) (ln : Int) (its : List It) (name : ByteArray) (ops : List Opd) (oa : Option Addr) (oc : Nat) (op : Int) (w : World) (h : UR w B gu e ln nv lm pp pv rv its) (hL : Isa.Laid w) (hF : FLaid w) (hr : OpsR w oa ops) (hn : ops.length ≤ 1000) (hkd : ∀ o, o ∈ ops → o.kd.data.toList.length = 1) (hnm : ∀ o, o ∈ ops → o.kd.toList = kdN → o.nm = ⟨#[]⟩)
    (hnot : formU ops ≠ [61, 114]) (hpl : (formU ops).head? ≠ some 112) (hop : findU name ⟨(formU ops).toArray⟩ 12 0 = op) (h0 : op ≠ 0) (hw : Isa.wrongI (ops.foldl fillU ⟨op, 0, 0, 0⟩).op (ops.foldl fillU ⟨op, 0, 0, 0⟩).n (ops.foldl fillU ⟨op, 0, 0, 0⟩).m (ops.foldl fillU ⟨op, 0, 0, 0⟩).imm = 0) (hits : its.length ≤ 100000) :
    Calls Tryz.prog 89 #[.pointer (some ⟨gu, 0, none⟩), .string name, .slice oa ops.length oc] w fun r w' => r = .returned (.int .i64 0) ∧ UR w' B gu e ln nv lm pp pv rv (its ++ [plainI ln (ops.foldl fillU ⟨op, 0, 0, 0⟩).op (ops.foldl fillU ⟨op, 0, 0, 0⟩).n (ops.foldl fillU ⟨op, 0, 0, 0⟩).m (ops.foldl fillU ⟨op, 0, 0, 0⟩).imm]) ∧ Fr gu B w w' ∧ KeepM w w' := by
  have kpO : ∀ {W : World}, Below w.heap.size w W → OpsR W oa ops := fun {W} hb => hr.keep fun hq => by rw [hb.block _ (blk_lt hq)]; exact hq
  have HFO := Lib.hid fun W (hb : Below w.heap.size w W) => formOf_any ops oa oc W (kpO hb) hn hkd
  have HFD := Lib.hid fun W (hb : Below w.heap.size w W) => find_any name ⟨(formU ops).toArray⟩ W (hL.below hb hL.sz) (hF.below hb hF.sz)
  have HFL := Lib.hid fun W (hb : Below w.heap.size w W) => filled_any op ops oa oc W (hL.below hb hL.sz) (kpO hb) hn hnm
  rw [hop] at HFD
  rw [hw] at HFL
  have HPL := Lib.hid fun W => plain_any (ops.foldl fillU ⟨op, 0, 0, 0⟩).op (ops.foldl fillU ⟨op, 0, 0, 0⟩).n (ops.foldl fillU ⟨op, 0, 0, 0⟩).m (ops.foldl fillU ⟨op, 0, 0, 0⟩).imm W
  have HU := Lib.hid h
  have HAD := Lib.hid fun W g (hb : Below w.heap.size w W) (hg : W.heap[g]? = some (.cells #[.int .i64 (ops.foldl fillU ⟨op, 0, 0, 0⟩).op, .int .i64 (ops.foldl fillU ⟨op, 0, 0, 0⟩).n, .int .i64 (ops.foldl fillU ⟨op, 0, 0, 0⟩).m, .int .i64 (ops.foldl fillU ⟨op, 0, 0, 0⟩).imm] 37 (0, 0))) => uadd_more gu B e nv lm pp pv rv .nilFunc (.func (.func 167) #[] #[.pointer (some ⟨g, 0, none⟩)]) ln 0 (plainI ln (ops.foldl fillU ⟨op, 0, 0, 0⟩).op (ops.foldl fillU ⟨op, 0, 0, 0⟩).n (ops.foldl fillU ⟨op, 0, 0, 0⟩).m (ops.foldl fillU ⟨op, 0, 0, 0⟩).imm) its W (HU.out.go hb) rfl ⟨rfl, g, rfl, hg⟩ hits
  have HFW : Hid (∀ W W', Below w.heap.size w W → Fr gu B W W' → Fr gu B w W') := fun W W' hb hf => (Fr.below (hb.mono HU.out.le)).trans hf
  unfold itV at HPL HAD
  simp only [plainI] at HAD
  have hf1 : (formU ops == [61, 114]) = false := beq_eq_false_iff_ne.2 hnot
  have h0' : (op == 0) = false := beq_eq_false_iff_ne.2 h0
  clear hL hF hr kpO hkd hnm hw h
  generalize ops.foldl fillU ⟨op, 0, 0, 0⟩ = fi at *
  obtain ⟨fo, fn, fm, fi⟩ := fi
  simp only at *
  obtain ⟨FM, hFM⟩ : ∃ FM, formU ops = FM := ⟨_, rfl⟩
  rw [hFM] at HFO HFD hf1 hpl
  clear hFM hop hnot
  have HHP : Hid (∀ W, Calls Tryz.prog 104 #[.string ⟨FM.toArray⟩, .string ⟨#[112]⟩] W fun e w' => e = .returned (.bool false) ∧ W = w') := fun W => by
    refine (Tryz.strings_HasPrefix ⟨FM.toArray⟩ ⟨#[112]⟩ W).mono ?_
    rintro e w' ⟨rfl, rfl⟩
    refine ⟨?_, rfl⟩
    congr 2
    simp only
    cases FM with
    | nil => rfl
    | cons a r =>
      have ha : a ≠ 112 := by simpa using hpl
      show (List.isPrefixOf [112] (a :: r)) = false
      simp only [List.isPrefixOf, Bool.and_eq_false_iff, beq_eq_false_iff_ne]
      exact .inl (Ne.symm ha)
  go_enter Tryz.func89, Tryz.ntmps89
  go_wp2_with fail
  refine (HFO.out _ (by go_grown)).mono ?_
  rintro e w1 ⟨rfl, hb1⟩
  have hB1 : Below w.heap.size w w1 := Below.trans (by go_grown) (hb1.mono (by go_size))
  have xu : w1.heap[w.heap.size]? = some (.cells #[.pointer (some ⟨gu, 0, none⟩)] 117 (0, 0)) := by rw [hb1.block _ (by go_size), old2 _ _ (by go_size)]; exact new_at _ _ rfl
  have xl : w1.heap[w.heap.size + 1]? = some (.cells #[.slice oa ops.length oc] 123 (0, 0)) := by rw [hb1.block _ (by go_size)]; exact new_at _ _ (by go_size)
  have HB1 := Lib.hid hB1
  have XU := Lib.hid xu
  have XL := Lib.hid xl
  have a0 : w1.cell? ⟨w.heap.size, 0, none⟩ = some (.pointer (some ⟨gu, 0, none⟩)) := blk_cell xu rfl
  have a1 : w1.cell? ⟨w.heap.size + 1, 0, none⟩ = some (.slice oa ops.length oc) := blk_cell xl rfl
  have z1 := blk_lt xl
  clear hb1 hB1 xu xl HFO
  go_wp2_with (first | (go_at_call 130; refine (HFD.out _ HB1.out).mono ?_; rintro e w2 ⟨rfl, hb2⟩; have HB2 := Lib.hid (HB1.out.trans (hb2.mono HB1.out.size)); have XU2 := Lib.hid ((hb2.block _ (blk_lt XU.out)).trans XU.out); have XL2 := Lib.hid ((hb2.block _ (blk_lt XL.out)).trans XL.out); have b0 : w2.cell? ⟨w.heap.size, 0, none⟩ = some (.pointer (some ⟨gu, 0, none⟩)) := blk_cell XU2.out rfl; have b1 : w2.cell? ⟨w.heap.size + 1, 0, none⟩ = some (.slice oa ops.length oc) := blk_cell XL2.out rfl; have z2 := blk_lt XL2.out; clear hb2) | fail)
  all_goals
    refine (HFL.out _ HB2.out).mono ?_
    rintro e w3 ⟨rfl, hb3⟩
    have HB3 := Lib.hid (HB2.out.trans (hb3.mono HB2.out.size))
    have XU3 := Lib.hid ((hb3.block _ (blk_lt XU2.out)).trans XU2.out)
    have d0 : w3.cell? ⟨w.heap.size, 0, none⟩ = some (.pointer (some ⟨gu, 0, none⟩)) := blk_cell XU3.out rfl
    have z3 := blk_lt XU3.out
    clear hb3 a0 a1 b0 b1
    go_wp2_with fail
  all_goals
    refine (HHP.out _).mono ?_
    rintro e w4 ⟨rfl, rfl⟩
    go_wp2_with fail
    have HB4 : Hid (Below w.heap.size w ((w3.alloc (.cells #[.int .i64 fo, .int .i64 fn, .int .i64 fm, .int .i64 fi] 37)).drew)) := (HB3.out.alloc HB3.out.size _).drew
    have XU4 : Hid ((w3.alloc (.cells #[.int .i64 fo, .int .i64 fn, .int .i64 fm, .int .i64 fi] 37)).drew.heap[w.heap.size]? = some (.cells #[.pointer (some ⟨gu, 0, none⟩)] 117 (0, 0))) := (old2 _ _ z3).trans XU3.out
    clear HB1 HB2 HFD HFL HHP XU XL XU2 XL2
    go_region_with (first
      | (go_at_call 133; refine (HPL.out _).mono ?_; rintro e w5 ⟨⟨g, rfl, _, hgi⟩, hb5⟩; have HB5 := Lib.hid (HB4.out.trans (hb5.mono HB4.out.size)); have xu5 := (hb5.block _ (blk_lt XU4.out)).trans XU4.out; have e0 : w5.cell? ⟨w.heap.size, 0, none⟩ = some (.pointer (some ⟨gu, 0, none⟩)) := blk_cell xu5 rfl; have z5 := blk_lt xu5; have HGI := Lib.hid hgi; clear hb5 xu5 hgi)
      | (go_at_call 47; refine (HAD.out _ _ HB5.out HGI.out).mono ?_; rintro e w6 ⟨rfl, hu6, hf6, hk6⟩))
  all_goals
    have HU6 := Lib.hid hu6
    have HF6 := Lib.hid (HFW.out _ _ HB5.out hf6)
    have HK6 := Lib.hid ((KeepM.of HB5.out).trans hk6)
    clear hu6 hf6 hk6
    go_wp2_with fail
    go_ret
    exact ⟨rfl, HU6.out, HF6.out, HK6.out⟩

end Go.Proofs.YtagkmgdjkailkaaGreatDoor

namespace Go.Proofs.YtagkmgdjkailkaaGreatDoor
open Go.RowKit

/-- A pool, and its map, changed: a unit is as it was. -/
theorem UR.pool {w w' : World} {B gu gp mi : Nat} {e : Value} {ln : Int} {nv lm pp pv rv : Value} {its : List It} {c : Array Value} {es : Array MapEntry} {ck : Nat} (h : UR w B gu e ln nv lm pp pv rv its) (hc : Ch gp (some mi) w w') (hp : w.heap[gp]? = some (.cells c 116 (0, 0))) (hm : w.heap[mi]? = some (.map es ck)) : UR w' B gu e ln nv lm pp pv rv its := by
  have key : ∀ {q : Nat} {c' : Array Value} {t : TypeId}, w.heap[q]? = some (.cells c' t (0, 0)) → t ≠ 116 → w'.heap[q]? = some (.cells c' t (0, 0)) := fun {q c' t} hq ht => by
    rw [hc.block q (blk_lt hq) (by rintro rfl; rw [hp] at hq; injection hq with hq; injection hq with _ e2; exact ht e2.symm) (by intro e0; injection e0 with e0; subst e0; rw [hm] at hq; cases hq)]
    exact hq
  obtain ⟨iv, l, h1, h2, h3, h4⟩ := h.its
  refine ⟨h.lt, Nat.le_trans h.le hc.size, iv, l, key h1 (by decide), ⟨h2.1, ?_⟩, h3, fun p hp' => (h4 p hp').stays fun {q c' t} hq ht => key hq (by rintro rfl; exact absurd ht (by decide))⟩
  rcases h2.2 with h5 | ⟨g, cap, cur, h5, h6, h7, h8⟩
  · exact .inl h5
  · exact .inr ⟨g, cap, cur, h5, h6, key h7 (by decide), h8⟩

set_option maxHeartbeats 4000000 in
/-- A value of the pool is loaded, the first that is asked of it. -/
theorem instr_pool (gu B gp mi : Nat) (e nv lm pv rv : Value) (ln f : Int) (its : List It) (nm : List UInt8) (n r : Int) (oa : Option Addr) (oc : Nat) (w : World) (h : UR w B gu e ln nv lm (.pointer (some ⟨gp, 0, none⟩)) pv rv its) (hL : Isa.Laid w) (hr : OpsR w oa [⟨⟨#[61]⟩, 0, ⟨nm.toArray⟩, n⟩, ⟨⟨#[114]⟩, r, ⟨#[]⟩, 0⟩]) (hp : w.heap[gp]? = some (.cells #[.int .i64 f, .slice none 0 0, .map (some mi)] 116 (0, 0))) (hm : w.heap[mi]? = some (.map #[] 0)) (hits : its.length ≤ 100000) (hlg : max 7 10 < gp) (hlm : max 7 10 < mi) :
    Calls Tryz.prog 89 #[.pointer (some ⟨gu, 0, none⟩), .string ⟨#[109, 111, 118, 46, 108]⟩, .slice oa 2 oc] w fun q w' => q = .returned (.int .i64 0) ∧ UR w' B gu e ln nv lm (.pointer (some ⟨gp, 0, none⟩)) pv rv (its ++ [leadI ln 24 r 0 0 (.slot gp 0)])
      ∧ (∃ va vc, w'.heap[gp]? = some (.cells #[.int .i64 f, .slice va 1 vc, .map (some mi)] 116 (0, 0)) ∧ w'.ownsRow w.heap.size 134 2 (.slice va 1 vc) 1 [.string ⟨nm.toArray⟩, .int .i64 n]) ∧ (w'.os = w.os ∧ w'.tape = w.tape ∧ w'.output = w.output ∧ ∀ i, i < B → i ≠ gu → i ≠ gp → i ≠ mi → w'.heap[i]? = w.heap[i]?) ∧ (w.heap.size ≤ w'.heap.size ∧ ∀ (q : Nat) (o : Obj), w.heap[q]? = some o → (∀ c f, o ≠ .cells c 79 f) → (∀ c f, o ≠ .cells c 131 f) → q ≠ gp → q ≠ mi → w'.heap[q]? = some o) := by
  have HFO : Hid (∀ W, Below w.heap.size w W → Calls Tryz.prog 127 #[.slice oa 2 oc] W fun r w' => r = .returned (.string ⟨#[61, 114]⟩) ∧ Below W.heap.size W w') := fun W hb => formOf_any [⟨⟨#[61]⟩, 0, ⟨nm.toArray⟩, n⟩, ⟨⟨#[114]⟩, r, ⟨#[]⟩, 0⟩] oa oc W (hr.keep fun hq => by rw [hb.block _ (blk_lt hq)]; exact hq) (by simp) (by intro o ho; simp at ho; rcases ho with rfl | rfl <;> rfl)
  obtain ⟨b1, rfl, cur, hbc, hcell⟩ := hr (by simp)
  obtain ⟨k0, k1, k2, k3⟩ := hcell 0 (by simp)
  obtain ⟨j0, j1, j2, j3⟩ := hcell 1 (by simp)
  simp only [List.getElem_cons_zero, List.getElem_cons_succ, Nat.zero_mul, Nat.zero_add, Nat.one_mul] at k0 k1 k2 k3 j0 j1 j2 j3
  have HBC := Lib.hid hbc
  have HU := Lib.hid h
  have HP := Lib.hid hp
  have HM := Lib.hid hm
  have HL := Lib.hid hL
  clear hcell hr h hp hm hL hbc
  go_enter Tryz.func89, Tryz.ntmps89
  go_wp2_with fail
  refine (HFO.out _ (by go_grown)).mono ?_
  rintro e w1 ⟨rfl, hb1⟩
  have hB1 : Below w.heap.size w w1 := Below.trans (by go_grown) (hb1.mono (by go_size))
  have xu : w1.heap[w.heap.size]? = some (.cells #[.pointer (some ⟨gu, 0, none⟩)] 117 (0, 0)) := by rw [hb1.block _ (by go_size), old2 _ _ (by go_size)]; exact new_at _ _ rfl
  have xl : w1.heap[w.heap.size + 1]? = some (.cells #[.slice (some ⟨b1, 0, none⟩) 2 oc] 123 (0, 0)) := by rw [hb1.block _ (by go_size)]; exact new_at _ _ (by go_size)
  have HB1 := Lib.hid hB1
  have XU := Lib.hid xu
  have XL := Lib.hid xl
  clear hb1 hB1 xu xl HFO
  go_wp2_with fail
  have hbc1 := (HB1.out.block _ (blk_lt HBC.out)).trans HBC.out
  refine wp_region_noPanic ?_
  refine wp_region_held_drew (S := fun X => X.heap[w.heap.size]? = some (.cells #[.pointer (some ⟨gu, 0, none⟩)] 117 (0, 0)) ∧ X.heap[w.heap.size + 1]? = some (.cells #[.slice (some ⟨b1, 0, none⟩) 2 oc] 123 (0, 0)) ∧ X.heap[b1]? = some (.cells cur 172 (0, 0))) (by kernel_rfl) ⟨XU.out, XL.out, hbc1⟩ (fun hHeld => ?_)
  obtain ⟨V0, hV0⟩ : ∃ X, X = w1.drew := ⟨_, rfl⟩
  have hB0 : Below w.heap.size w V0 := by rw [hV0]; exact HB1.out.drew
  have HB0 := Lib.hid hB0
  rw [← hV0] at hHeld ⊢
  clear hV0 hbc1 HB1 XU XL
  refine take_at 0 19 (v := ?_) rfl rfl (by kernel_rfl) (by kernel_rfl) (by kernel_rfl) (fun _ _ _ h => h) rfl ?_ hHeld ?_
  rotate_left
  · intro w hSw
    have y0 := cell_of_block (i := 0) hSw.1 rfl
    go_simp
    try with_reducible rfl
  simp only [List.setIfInBounds_toArray, List.set_cons_zero, List.set_cons_succ]
  refine take_at 1 20 (v := ?_) rfl rfl (by kernel_rfl) (by kernel_rfl) (by kernel_rfl) (fun _ _ _ h => h) rfl ?_ hHeld ?_
  rotate_left
  · intro w hSw
    have y0 := cell_of_block (i := 0) hSw.1 rfl
    go_simp
    try with_reducible rfl
  simp only [List.setIfInBounds_toArray, List.set_cons_zero, List.set_cons_succ]
  refine take_at 2 21 (v := ?_) rfl rfl (by kernel_rfl) (by kernel_rfl) (by kernel_rfl) (fun _ _ _ h => h) rfl ?_ hHeld ?_
  rotate_left
  · intro w hSw
    have y0 := cell_of_block (i := 0) hSw.2.1 rfl
    go_simp
    try with_reducible rfl
  simp only [List.setIfInBounds_toArray, List.set_cons_zero, List.set_cons_succ]
  refine take_at 3 22 (v := ?_) rfl rfl (by kernel_rfl) (by kernel_rfl) (by kernel_rfl) (fun _ _ _ h => h) rfl ?_ hHeld ?_
  rotate_left
  · intro w hSw
    go_simp
    try with_reducible rfl
  simp only [List.setIfInBounds_toArray, List.set_cons_zero, List.set_cons_succ]
  refine take_at 4 23 (v := ?_) rfl rfl (by kernel_rfl) (by kernel_rfl) (by kernel_rfl) (fun _ _ _ h => h) rfl ?_ hHeld ?_
  rotate_left
  · intro w hSw
    go_simp
    try with_reducible rfl
  simp only [List.setIfInBounds_toArray, List.set_cons_zero, List.set_cons_succ]
  refine take_at 5 24 (v := ?_) rfl rfl (by kernel_rfl) (by kernel_rfl) (by kernel_rfl) (fun _ _ _ h => h) rfl ?_ hHeld ?_
  rotate_left
  · intro w hSw
    have y0 : w.cell? ⟨b1, 5, none⟩ = some (.int .i64 r) := cell_of_block hSw.2.2 j1
    go_simp
    try with_reducible rfl
  simp only [List.setIfInBounds_toArray, List.set_cons_zero, List.set_cons_succ]
  refine take_at 6 25 (v := ?_) rfl rfl (by kernel_rfl) (by kernel_rfl) (by kernel_rfl) (fun _ _ _ h => h) rfl ?_ hHeld ?_
  rotate_left
  · intro w hSw
    go_simp
    try with_reducible rfl
  simp only [List.setIfInBounds_toArray, List.set_cons_zero, List.set_cons_succ]
  refine take_at 7 26 (v := ?_) rfl rfl (by kernel_rfl) (by kernel_rfl) (by kernel_rfl) (fun _ _ _ h => h) rfl ?_ hHeld ?_
  rotate_left
  · intro w hSw
    have y0 := cell_of_block (i := 0) hSw.1 rfl
    go_simp
    try with_reducible rfl
  simp only [List.setIfInBounds_toArray, List.set_cons_zero, List.set_cons_succ]
  refine take_at 8 27 (v := ?_) rfl rfl (by kernel_rfl) (by kernel_rfl) (by kernel_rfl) (fun _ _ _ h => h) rfl ?_ hHeld ?_
  rotate_left
  · intro w hSw
    have y0 := cell_of_block (i := 0) hSw.2.1 rfl
    go_simp
    try with_reducible rfl
  simp only [List.setIfInBounds_toArray, List.set_cons_zero, List.set_cons_succ]
  refine take_at 9 28 (v := ?_) rfl rfl (by kernel_rfl) (by kernel_rfl) (by kernel_rfl) (fun _ _ _ h => h) rfl ?_ hHeld ?_
  rotate_left
  · intro w hSw
    go_simp
    try with_reducible rfl
  simp only [List.setIfInBounds_toArray, List.set_cons_zero, List.set_cons_succ]
  refine take_at 10 29 (v := ?_) rfl rfl (by kernel_rfl) (by kernel_rfl) (by kernel_rfl) (fun _ _ _ h => h) rfl ?_ hHeld ?_
  rotate_left
  · intro w hSw
    go_simp
    try with_reducible rfl
  simp only [List.setIfInBounds_toArray, List.set_cons_zero, List.set_cons_succ]
  refine take_at 11 30 (v := ?_) rfl rfl (by kernel_rfl) (by kernel_rfl) (by kernel_rfl) (fun _ _ _ h => h) rfl ?_ hHeld ?_
  rotate_left
  · intro w hSw
    have y0 : w.cell? ⟨b1, 2, none⟩ = some (.string ⟨nm.toArray⟩) := cell_of_block hSw.2.2 k2
    have y1 : w.cell? ⟨b1, 3, none⟩ = some (.int .i64 n) := cell_of_block hSw.2.2 k3
    go_simp
    try with_reducible rfl
  simp only [List.setIfInBounds_toArray, List.set_cons_zero, List.set_cons_succ]
  have hU0 := HU.out.go HB0.out
  have hp0 := (HB0.out.block _ (blk_lt HP.out)).trans HP.out
  have hm0 := (HB0.out.block _ (blk_lt HM.out)).trans HM.out
  have c5 : V0.cell? ⟨gu, 5, none⟩ = some (.pointer (some ⟨gp, 0, none⟩)) := by obtain ⟨iv, il, u1, _⟩ := hU0.its; exact blk_cell u1 rfl
  have hask := Lib.hid (ask_first gu gp mi f ⟨nm.toArray⟩ n V0 c5 hp0 hm0)
  refine wpAnyH_ready (rs := [12]) (by kernel_rfl) (by simp) ?_
  refine AllReadyH.cons rfl (fun K hK => ?_) AllReadyH.nil
  go_simp
  refine hask.out.mono ?_
  rintro e w5 ⟨⟨gb, gq, gi, rfl, a1, a2, a3⟩, ⟨va, vc, hp5, hr5⟩, hch⟩
  have hU5 := hU0.pool hch hp0 hm0
  have kc : ∀ {q : Nat} {c : Array Value} {t : TypeId}, V0.heap[q]? = some (.cells c t (0, 0)) → t ≠ 116 → w5.heap[q]? = some (.cells c t (0, 0)) := fun {q c t} hq ht => by
    rw [hch.block q (blk_lt hq) (by rintro rfl; rw [hp0] at hq; injection hq with hq; injection hq with _ e2; exact ht e2.symm) (by intro e0; injection e0 with e0; subst e0; rw [hm0] at hq; cases hq)]
    exact hq
  have hS5 := And.intro (kc hHeld.1 (by decide)) (And.intro (kc hHeld.2.1 (by decide)) (kc hHeld.2.2 (by decide)))
  have hL5 : Isa.Laid w5 := (HL.out.below HB0.out HL.out.sz).below (B := max 7 10 + 1) ⟨hch.os, hch.tape, hch.output, hch.size, fun i hi => hch.block i (by have := HL.out.sz; have := HB0.out.size; omega) (by omega) (by intro e0; injection e0 with e0; omega)⟩ (by omega)
  have hle := Lib.hid (leading_any gu 24 r 0 0 (.func 164) #[] #[.pointer (some ⟨gb, 0, none⟩), .pointer (some ⟨gq, 0, none⟩), .pointer (some ⟨gi, 0, none⟩)] w5 hL5)
  have HCH := Lib.hid hch
  have HU5 := Lib.hid hU5
  have HP5 := Lib.hid hp5
  have HR5 := Lib.hid hr5
  have A1 := Lib.hid a1
  have A2 := Lib.hid a2
  have A3 := Lib.hid a3
  unfold itV at hle
  rw [show Isa.infoShape 24 = 8 by rfl] at hle
  simp only [show ((8 : Int) = 4) = False by decide, if_false] at hle
  clear hU0 hp0 hm0 c5 hask hU5 kc hL5 hch hp5 hr5 a1 a2 a3
  go_simp
  refine hK.out _ _ hS5 (fun hHeld => ?_)
  clear hK K hS5
  refine wpAnyH_ready (rs := [13]) (by kernel_rfl) (by simp) ?_
  refine AllReadyH.cons rfl (fun K hK => ?_) AllReadyH.nil
  go_simp
  refine hle.out.mono ?_
  rintro e w6 ⟨⟨gt, gj, rfl, h1, h2⟩, hb6⟩
  have hS6 := And.intro ((hb6.block _ (blk_lt hHeld.1)).trans hHeld.1) (And.intro ((hb6.block _ (blk_lt hHeld.2.1)).trans hHeld.2.1) ((hb6.block _ (blk_lt hHeld.2.2)).trans hHeld.2.2))
  have HAD := Lib.hid (uadd_more gu B _ nv lm _ pv rv .nilFunc (.func (.func 157) #[] #[.pointer (some ⟨gt, 0, none⟩), .pointer (some ⟨gj, 0, none⟩)]) ln 0 (leadI ln 24 r 0 0 (.slot gp 0)) its w6 (HU5.out.go hb6) rfl ⟨gt, gj, _, by rw [if_neg (by decide)], rfl, h1, h2, ⟨gb, gq, gi, rfl, (hb6.block _ (blk_lt A1.out)).trans A1.out, (hb6.block _ (blk_lt A2.out)).trans A2.out, (hb6.block _ (blk_lt A3.out)).trans A3.out⟩⟩ hits)
  unfold itV at HAD
  simp only [leadI] at HAD
  have HB6 := Lib.hid hb6
  clear hle h1 h2 hb6
  go_simp
  refine hK.out _ _ hS6 (fun hHeld => ?_)
  clear hK K hS6
  refine wpAnyH_ready (rs := [14]) (by kernel_rfl) (by simp) ?_
  refine AllReadyH.cons rfl (fun K hK => ?_) AllReadyH.nil
  go_simp
  refine HAD.out.mono ?_
  rintro e w7 ⟨rfl, hu7, hf7, hk7⟩
  have hS7 := And.intro (hk7.2 _ _ hHeld.1 (by intro c f e; cases e) (by intro c f e; cases e)) (And.intro (hk7.2 _ _ hHeld.2.1 (by intro c f e; cases e) (by intro c f e; cases e)) (hk7.2 _ _ hHeld.2.2 (by intro c f e; cases e) (by intro c f e; cases e)))
  have HU7 := Lib.hid hu7
  have HO7 := Lib.hid (And.intro hf7.os (And.intro hf7.tape (And.intro hf7.output hf7.block)))
  have HK7 := Lib.hid hk7
  clear hu7 hf7 hk7 HAD
  go_simp
  refine hK.out _ _ hS7 (fun hHeld => ?_)
  clear hK K hS7
  refine wpAnyH_done (by kernel_rfl) ?_ _
  refine NoPanic.normal ?_
  clear hHeld
  go_wp2_with fail
  go_ret
  have hp6 := (HB6.out.block _ (blk_lt HP5.out)).trans HP5.out
  have hr6 := Sc.owns_below HR5.out HB6.out (Nat.le_refl _)
  refine ⟨rfl, HU7.out, ⟨va, vc, HK7.out.2 _ _ hp6 (by intro c f e; cases e) (by intro c f e; cases e), ?_⟩, ⟨HO7.out.1.trans (HB6.out.os.trans (HCH.out.os.trans HB0.out.os)), HO7.out.2.1.trans (HB6.out.tape.trans (HCH.out.tape.trans HB0.out.tape)), HO7.out.2.2.1.trans (HB6.out.output.trans (HCH.out.output.trans HB0.out.output)), fun i hi n1 n2 n3 => by
    have hle := HU.out.le
    have hz0 := HB0.out.size
    have hz1 := HCH.out.size
    rw [HO7.out.2.2.2 i hi n1, HB6.out.block i (by omega), HCH.out.block i (by omega) n2 (by intro e0; injection e0 with e0; exact n3 e0)]
    exact HB0.out.block i (by omega)⟩, ?_⟩
  · have hle0 := HB0.out.size
    rcases hr6.2 with h5 | ⟨g, cap, cur', h5, h6, h7, h8⟩
    · exact ⟨hr6.1, .inl h5⟩
    · exact ⟨hr6.1, .inr ⟨g, cap, cur', h5, by omega, HK7.out.2 _ _ h7 (by intro c f e; cases e) (by intro c f e; cases e), h8⟩⟩
  · refine ⟨Nat.le_trans HB0.out.size (Nat.le_trans HCH.out.size (Nat.le_trans HB6.out.size HK7.out.1)), fun q o hq t1 t2 n1 n2 => ?_⟩
    have q0 := (HB0.out.block _ (blk_lt hq)).trans hq
    have q5 := (HCH.out.block q (blk_lt q0) n1 (by intro e0; injection e0 with e0; exact n2 e0)).trans q0
    have q6 := (HB6.out.block _ (blk_lt q5)).trans q5
    exact HK7.out.2 q o q6 t1 t2

end Go.Proofs.YtagkmgdjkailkaaGreatDoor
