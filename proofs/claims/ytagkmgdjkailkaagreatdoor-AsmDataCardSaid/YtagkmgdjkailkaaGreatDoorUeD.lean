/- asm: an instruction that leads, made; a value of a pool asked for. -/
import Derived.Test.YtagkmgdjkailkaaGreatDoorPut34
import Derived.Test.YtagkmgdjkailkaaGreatDoorPut40
namespace Go.Proofs.YtagkmgdjkailkaaGreatDoor
open Go.RowKit

theorem var6_of {w : World} {R : Nat} {a b c d e f : Value} {t : TypeId} (h : w.heap[R]? = some (.cells #[a, b, c, d, e, f] t (0, 0))) : ((w.cell? ⟨R, 0, none⟩ = some a ∧ w.cell? ⟨R, 1, none⟩ = some b ∧ w.cell? ⟨R, 2, none⟩ = some c) ∧ (w.cell? ⟨R, 3, none⟩ = some d ∧ w.cell? ⟨R, 4, none⟩ = some e ∧ w.cell? ⟨R, 5, none⟩ = some f)) ∧ (w.frozen? ⟨R, 0, none⟩ = false ∧ w.frozen? ⟨R, 1, none⟩ = false ∧ w.frozen? ⟨R, 2, none⟩ = false) ∧ w.frozen? ⟨R, 3, none⟩ = false ∧ w.frozen? ⟨R, 4, none⟩ = false ∧ w.frozen? ⟨R, 5, none⟩ = false := by
  refine ⟨⟨⟨?_, ?_, ?_⟩, ?_, ?_, ?_⟩, ⟨?_, ?_, ?_⟩, ?_, ?_, ?_⟩ <;> simp [World.cell?, World.frozen?, h]

set_option maxHeartbeats 2000000 in
theorem leading_any (gu : Nat) (op n m imm : Int) (fn : Fn) (fa fc : Array Value) (w : World) (hL : Isa.Laid w) :
    Calls Tryz.prog 128 #[.pointer (some ⟨gu, 0, none⟩), .agg #[.int .i64 op, .int .i64 n, .int .i64 m, .int .i64 imm], .func fn fa fc] w fun r w' =>
      (∃ gt gi, r = .returned (itV 0 2 1 2 (if Isa.infoShape op = 4 then .func (.func 162) #[] #[.pointer (some ⟨gt, 0, none⟩)] else .nilFunc) (.func (.func 157) #[] #[.pointer (some ⟨gt, 0, none⟩), .pointer (some ⟨gi, 0, none⟩)]))
        ∧ w'.heap[gt]? = some (.cells #[.func fn fa fc] 210 (0, 0)) ∧ w'.heap[gi]? = some (.cells #[.int .i64 op, .int .i64 n, .int .i64 m, .int .i64 imm] 37 (0, 0))) ∧ Below w.heap.size w w' := by
  have HI := Lib.hid fun W (hb : Below w.heap.size w W) => Isa.info_any op W (hL.below hb hL.sz)
  generalize Isa.infoShape op = sh at *
  generalize Isa.infoName op = nm at *
  clear hL
  unfold itV
  by_cases h4 : sh = 4
  · subst h4
    simp only [↓reduceIte]
    go_enter Tryz.func128, Tryz.ntmps128
    go_wp2_with fail
    refine (HI.out _ (by go_grown)).mono ?_
    rintro e w1 ⟨rfl, hb1⟩
    have xi : w1.heap[w.heap.size]? = some (.cells #[.int .i64 op, .int .i64 n, .int .i64 m, .int .i64 imm] 37 (0, 0)) := by
      rw [hb1.block _ (by go_size), old2 _ _ (by go_size), old2 _ _ (by go_size), old2 _ _ (by go_size)]; exact new_at _ _ rfl
    have xt : w1.heap[w.heap.size + 1]? = some (.cells #[.func fn fa fc] 210 (0, 0)) := by
      rw [hb1.block _ (by go_size), old2 _ _ (by go_size), old2 _ _ (by go_size)]; exact new_at _ _ (by go_size)
    have xr : w1.heap[w.heap.size + 1 + 1]? = some (.cells #[.int .i64 0, .int .i64 0, .int .i64 0, .int .i64 0, .nilFunc, .nilFunc] 131 (0, 0)) := by
      rw [hb1.block _ (by go_size), old2 _ _ (by go_size)]; exact new_at _ _ (by go_size)
    have xx : w1.heap[w.heap.size + 1 + 1 + 1]? = some (.cells #[.int .i64 0, .int .i64 2, .int .i64 1, .int .i64 2, .nilFunc, .func (.func 157) #[] #[.pointer (some ⟨w.heap.size + 1, 0, none⟩), .pointer (some ⟨w.heap.size, 0, none⟩)]] 131 (0, 0)) := by
      rw [hb1.block _ (by go_size)]; exact new_at _ _ (by go_size)
    have HB1 : Hid (Below w.heap.size w w1) := Below.trans (by go_grown) (hb1.mono (by go_size))
    obtain ⟨⟨⟨a0, a1, a2⟩, a3, a4, a5⟩, ⟨e0, e1, e2⟩, e3, e4, e5⟩ := var6_of xr
    obtain ⟨⟨⟨b0, b1, b2⟩, b3, b4, b5⟩, ⟨g0, g1, g2⟩, g3, g4, g5⟩ := var6_of xx
    have hz := blk_lt xx
    have XI := Lib.hid xi
    have XT := Lib.hid xt
    clear hb1 xi xt xr xx HI
    go_wp2_with fail
    refine bodyPost_ret (v := .agg #[.int .i64 0, .int .i64 2, .int .i64 1, .int .i64 2, .func (.func 162) #[] #[.pointer (some ⟨w.heap.size + 1, 0, none⟩)], .func (.func 157) #[] #[.pointer (some ⟨w.heap.size + 1, 0, none⟩), .pointer (some ⟨w.heap.size, 0, none⟩)]]) (by simp [results, Tryz.results128, go_sem, a0, a1, a2, a3, a4, a5]) rfl ⟨⟨w.heap.size + 1, w.heap.size, rfl, ?_, ?_⟩, ?_⟩
    · rw [Below.heap_setCell _ _ _ _ (by show w.heap.size + 1 ≠ w.heap.size + 1 + 1; omega), Below.heap_setCell _ _ _ _ (by show w.heap.size + 1 ≠ w.heap.size + 1 + 1; omega), Below.heap_setCell _ _ _ _ (by show w.heap.size + 1 ≠ w.heap.size + 1 + 1; omega), Below.heap_setCell _ _ _ _ (by show w.heap.size + 1 ≠ w.heap.size + 1 + 1; omega), Below.heap_setCell _ _ _ _ (by show w.heap.size + 1 ≠ w.heap.size + 1 + 1; omega), Below.heap_setCell _ _ _ _ (by show w.heap.size + 1 ≠ w.heap.size + 1 + 1; omega), Below.heap_setCell _ _ _ _ (by show w.heap.size + 1 ≠ w.heap.size + 1 + 1 + 1; omega)]
      exact XT.out
    · rw [Below.heap_setCell _ _ _ _ (by show w.heap.size ≠ w.heap.size + 1 + 1; omega), Below.heap_setCell _ _ _ _ (by show w.heap.size ≠ w.heap.size + 1 + 1; omega), Below.heap_setCell _ _ _ _ (by show w.heap.size ≠ w.heap.size + 1 + 1; omega), Below.heap_setCell _ _ _ _ (by show w.heap.size ≠ w.heap.size + 1 + 1; omega), Below.heap_setCell _ _ _ _ (by show w.heap.size ≠ w.heap.size + 1 + 1; omega), Below.heap_setCell _ _ _ _ (by show w.heap.size ≠ w.heap.size + 1 + 1; omega), Below.heap_setCell _ _ _ _ (by show w.heap.size ≠ w.heap.size + 1 + 1 + 1; omega)]
      exact XI.out
    · exact (((((((HB1.out.setCell (p := ⟨w.heap.size + 1 + 1 + 1, 4, none⟩) (by show w.heap.size ≤ w.heap.size + 1 + 1 + 1; omega) _).setCell (p := ⟨w.heap.size + 1 + 1, 0, none⟩) (by show w.heap.size ≤ w.heap.size + 1 + 1; omega) _).setCell (p := ⟨w.heap.size + 1 + 1, 1, none⟩) (by show w.heap.size ≤ w.heap.size + 1 + 1; omega) _).setCell (p := ⟨w.heap.size + 1 + 1, 2, none⟩) (by show w.heap.size ≤ w.heap.size + 1 + 1; omega) _).setCell (p := ⟨w.heap.size + 1 + 1, 3, none⟩) (by show w.heap.size ≤ w.heap.size + 1 + 1; omega) _).setCell (p := ⟨w.heap.size + 1 + 1, 4, none⟩) (by show w.heap.size ≤ w.heap.size + 1 + 1; omega) _).setCell (p := ⟨w.heap.size + 1 + 1, 5, none⟩) (by show w.heap.size ≤ w.heap.size + 1 + 1; omega) _)
  · simp only [h4, ↓reduceIte]
    have h4' : (sh == 4) = false := beq_eq_false_iff_ne.2 h4
    go_enter Tryz.func128, Tryz.ntmps128
    go_wp2_with fail
    refine (HI.out _ (by go_grown)).mono ?_
    rintro e w1 ⟨rfl, hb1⟩
    have xi : w1.heap[w.heap.size]? = some (.cells #[.int .i64 op, .int .i64 n, .int .i64 m, .int .i64 imm] 37 (0, 0)) := by
      rw [hb1.block _ (by go_size), old2 _ _ (by go_size), old2 _ _ (by go_size), old2 _ _ (by go_size)]; exact new_at _ _ rfl
    have xt : w1.heap[w.heap.size + 1]? = some (.cells #[.func fn fa fc] 210 (0, 0)) := by
      rw [hb1.block _ (by go_size), old2 _ _ (by go_size), old2 _ _ (by go_size)]; exact new_at _ _ (by go_size)
    have xr : w1.heap[w.heap.size + 1 + 1]? = some (.cells #[.int .i64 0, .int .i64 0, .int .i64 0, .int .i64 0, .nilFunc, .nilFunc] 131 (0, 0)) := by
      rw [hb1.block _ (by go_size), old2 _ _ (by go_size)]; exact new_at _ _ (by go_size)
    have xx : w1.heap[w.heap.size + 1 + 1 + 1]? = some (.cells #[.int .i64 0, .int .i64 2, .int .i64 1, .int .i64 2, .nilFunc, .func (.func 157) #[] #[.pointer (some ⟨w.heap.size + 1, 0, none⟩), .pointer (some ⟨w.heap.size, 0, none⟩)]] 131 (0, 0)) := by
      rw [hb1.block _ (by go_size)]; exact new_at _ _ (by go_size)
    have HB1 : Hid (Below w.heap.size w w1) := Below.trans (by go_grown) (hb1.mono (by go_size))
    obtain ⟨⟨⟨a0, a1, a2⟩, a3, a4, a5⟩, ⟨e0, e1, e2⟩, e3, e4, e5⟩ := var6_of xr
    obtain ⟨⟨⟨b0, b1, b2⟩, b3, b4, b5⟩, ⟨g0, g1, g2⟩, g3, g4, g5⟩ := var6_of xx
    have hz := blk_lt xx
    have XI := Lib.hid xi
    have XT := Lib.hid xt
    clear hb1 xi xt xr xx HI
    go_wp2_with fail
    refine bodyPost_ret (v := .agg #[.int .i64 0, .int .i64 2, .int .i64 1, .int .i64 2, .nilFunc, .func (.func 157) #[] #[.pointer (some ⟨w.heap.size + 1, 0, none⟩), .pointer (some ⟨w.heap.size, 0, none⟩)]]) (by simp [results, Tryz.results128, go_sem, a0, a1, a2, a3, a4, a5]) rfl ⟨⟨w.heap.size + 1, w.heap.size, rfl, ?_, ?_⟩, ?_⟩
    · rw [Below.heap_setCell _ _ _ _ (by show w.heap.size + 1 ≠ w.heap.size + 1 + 1; omega), Below.heap_setCell _ _ _ _ (by show w.heap.size + 1 ≠ w.heap.size + 1 + 1; omega), Below.heap_setCell _ _ _ _ (by show w.heap.size + 1 ≠ w.heap.size + 1 + 1; omega), Below.heap_setCell _ _ _ _ (by show w.heap.size + 1 ≠ w.heap.size + 1 + 1; omega), Below.heap_setCell _ _ _ _ (by show w.heap.size + 1 ≠ w.heap.size + 1 + 1; omega), Below.heap_setCell _ _ _ _ (by show w.heap.size + 1 ≠ w.heap.size + 1 + 1; omega)]
      exact XT.out
    · rw [Below.heap_setCell _ _ _ _ (by show w.heap.size ≠ w.heap.size + 1 + 1; omega), Below.heap_setCell _ _ _ _ (by show w.heap.size ≠ w.heap.size + 1 + 1; omega), Below.heap_setCell _ _ _ _ (by show w.heap.size ≠ w.heap.size + 1 + 1; omega), Below.heap_setCell _ _ _ _ (by show w.heap.size ≠ w.heap.size + 1 + 1; omega), Below.heap_setCell _ _ _ _ (by show w.heap.size ≠ w.heap.size + 1 + 1; omega), Below.heap_setCell _ _ _ _ (by show w.heap.size ≠ w.heap.size + 1 + 1; omega)]
      exact XI.out
    · exact ((((((HB1.out.setCell (p := ⟨w.heap.size + 1 + 1, 0, none⟩) (by show w.heap.size ≤ w.heap.size + 1 + 1; omega) _).setCell (p := ⟨w.heap.size + 1 + 1, 1, none⟩) (by show w.heap.size ≤ w.heap.size + 1 + 1; omega) _).setCell (p := ⟨w.heap.size + 1 + 1, 2, none⟩) (by show w.heap.size ≤ w.heap.size + 1 + 1; omega) _).setCell (p := ⟨w.heap.size + 1 + 1, 3, none⟩) (by show w.heap.size ≤ w.heap.size + 1 + 1; omega) _).setCell (p := ⟨w.heap.size + 1 + 1, 4, none⟩) (by show w.heap.size ≤ w.heap.size + 1 + 1; omega) _).setCell (p := ⟨w.heap.size + 1 + 1, 5, none⟩) (by show w.heap.size ≤ w.heap.size + 1 + 1; omega) _)

theorem infoV : (Tryz.prog.info? 134).map (fun i => (i.zero, i.size, i.bytes)) = some (some (.agg #[.string ⟨#[]⟩, .int .i64 0]), 2, 24) := by kernel_rfl
theorem chkV (e : Bool) (nm : ByteArray) (n : Int) (W : World) : (Instr.checkKey e 10000 134 (.agg #[.string nm, .int .i64 n])).run Tryz.prog W = .ok () W := by kernel_rfl
theorem fndV (nm : ByteArray) (n : Int) (W : World) : (Instr.findKey 134 (.agg #[.string nm, .int .i64 n]) []).run Tryz.prog W = .ok none W := by kernel_rfl
theorem look_empty (nm : ByteArray) (n : Int) (mi : Nat) (W : World) (h : W.heap[mi]? = some (.map #[] 0)) : (Instr.lookup 113 (.map (some mi)) (.agg #[.string nm, .int .i64 n]) true).run Tryz.prog W = .ok (.tuple #[.int .i64 0, .bool false]) W := by
  unfold Instr.lookup
  simp [Sem.run_bind, run_underlying Tryz.underlying113, MapKept.run_getObj_map h, chkV, fndV, Result.andThen]
theorem upd_empty (nm : ByteArray) (n v : Int) (mi : Nat) (W : World) (h : W.heap[mi]? = some (.map #[] 0)) : ∃ W', (Instr.mapUpdate 113 (.map (some mi)) (.agg #[.string nm, .int .i64 n]) (.int .i64 v)).run Tryz.prog W = .ok () W' ∧ W.grownBy W' (some mi) := by
  refine ⟨ChangeMaps.setBlock W mi (.map #[{ key := .agg #[.string nm, .int .i64 n], val := .int .i64 v, born := 0 }] 1), ?_, ⟨rfl, rfl, rfl, by simp [ChangeMaps.setBlock], fun i _ hi => ChangeMaps.heap_setBlock_other h _ (fun e => hi (by rw [e]))⟩⟩
  unfold Instr.mapUpdate
  simp [Sem.run_bind, run_underlying Tryz.underlying113, MapKept.run_getObj_map h, MapKept.run_setObj_map _ h, chkV, fndV, Result.andThen, ChangeMaps.setBlock]

set_option maxHeartbeats 16000000 in
/-- A value asked for where nothing was asked before: it is the pool's first. -/
theorem ask_first (gu gp mi : Nat) (f : Int) (nm : ByteArray) (n : Int) (w : World) (hu : w.cell? ⟨gu, 5, none⟩ = some (.pointer (some ⟨gp, 0, none⟩))) (hp : w.heap[gp]? = some (.cells #[.int .i64 f, .slice none 0 0, .map (some mi)] 116 (0, 0))) (hm : w.heap[mi]? = some (.map #[] 0)) :
    Calls Tryz.prog 129 #[.pointer (some ⟨gu, 0, none⟩), .agg #[.string nm, .int .i64 n]] w fun r w' =>
      (∃ gb gq gi, r = .returned (.func (.func 164) #[] #[.pointer (some ⟨gb, 0, none⟩), .pointer (some ⟨gq, 0, none⟩), .pointer (some ⟨gi, 0, none⟩)]) ∧ w'.heap[gb]? = some (.cells #[.pointer (some ⟨gu, 0, none⟩)] 117 (0, 0)) ∧ w'.heap[gq]? = some (.cells #[.pointer (some ⟨gp, 0, none⟩)] 75 (0, 0)) ∧ w'.heap[gi]? = some (.cells #[.int .i64 (0 : Nat)] 3 (0, 0)))
      ∧ (∃ va vc, w'.heap[gp]? = some (.cells #[.int .i64 f, .slice va 1 vc, .map (some mi)] 116 (0, 0)) ∧ w'.ownsRow w.heap.size 134 2 (.slice va 1 vc) 1 [.string nm, .int .i64 n]) ∧ Ch gp (some mi) w w' := by
  have cp2 : w.cell? ⟨gp, 2, none⟩ = some (.map (some mi)) := blk_cell hp rfl
  have cp1 : w.cell? ⟨gp, 1, none⟩ = some (.slice none 0 0) := blk_cell hp rfl
  have hg : gu < w.heap.size := World.block_lt_of_cell? w _ hu
  have hgp := blk_lt hp
  have hmi := blk_lt hm
  have hm3 : (((w.alloc (.cells #[.pointer (some ⟨gu, 0, none⟩)] 117)).alloc (.cells #[.string nm, .int .i64 n] 134)).alloc (.cells #[.pointer (some ⟨gp, 0, none⟩)] 75)).heap[mi]? = some (.map #[] 0) := by
    rw [old2 _ _ (by go_size), old2 _ _ (by go_size), old2 _ _ (by go_size)]; exact hm
  have hm4 : ((((w.alloc (.cells #[.pointer (some ⟨gu, 0, none⟩)] 117)).alloc (.cells #[.string nm, .int .i64 n] 134)).alloc (.cells #[.pointer (some ⟨gp, 0, none⟩)] 75)).alloc (.cells #[.int .i64 0] 3)).heap[mi]? = some (.map #[] 0) := by rw [old2 _ _ (by go_size)]; exact hm3
  have hlk3 : (Instr.lookup 113 (.map (some mi)) (.agg #[.string nm, .int .i64 n]) true).run Tryz.prog (((w.alloc (.cells #[.pointer (some ⟨gu, 0, none⟩)] 117)).alloc (.cells #[.string nm, .int .i64 n] 134)).alloc (.cells #[.pointer (some ⟨gp, 0, none⟩)] 75)).drew = .ok (.tuple #[.int .i64 0, .bool false]) (((w.alloc (.cells #[.pointer (some ⟨gu, 0, none⟩)] 117)).alloc (.cells #[.string nm, .int .i64 n] 134)).alloc (.cells #[.pointer (some ⟨gp, 0, none⟩)] 75)).drew := look_empty nm n mi _ hm3
  have hlk4 : (Instr.lookup 113 (.map (some mi)) (.agg #[.string nm, .int .i64 n]) true).run Tryz.prog ((((w.alloc (.cells #[.pointer (some ⟨gu, 0, none⟩)] 117)).alloc (.cells #[.string nm, .int .i64 n] 134)).alloc (.cells #[.pointer (some ⟨gp, 0, none⟩)] 75)).alloc (.cells #[.int .i64 0] 3)).drew = .ok (.tuple #[.int .i64 0, .bool false]) ((((w.alloc (.cells #[.pointer (some ⟨gu, 0, none⟩)] 117)).alloc (.cells #[.string nm, .int .i64 n] 134)).alloc (.cells #[.pointer (some ⟨gp, 0, none⟩)] 75)).alloc (.cells #[.int .i64 0] 3)).drew := look_empty nm n mi _ hm4
  have zp1 : gp < w.heap.size + 1 := by omega
  have zp2 : gp < w.heap.size + 1 + 1 := by omega
  have zp3 : gp < w.heap.size + 1 + 1 + 1 := by omega
  have zu1 : gu < w.heap.size + 1 := by omega
  have zu2 : gu < w.heap.size + 1 + 1 := by omega
  have zu3 : gu < w.heap.size + 1 + 1 + 1 := by omega
  go_enter Tryz.func129, Tryz.ntmps129
  go_wp2_with fail
  go_region
  all_goals go_wp2_with fail
  all_goals
    have xb : ((((w.alloc (.cells #[.pointer (some ⟨gu, 0, none⟩)] 117)).alloc (.cells #[.string nm, .int .i64 n] 134)).alloc (.cells #[.pointer (some ⟨gp, 0, none⟩)] 75)).alloc (.cells #[.int .i64 0] 3)).drew.heap[w.heap.size]? = some (.cells #[.pointer (some ⟨gu, 0, none⟩)] 117 (0, 0)) := by
      show (World.alloc _ _).heap[w.heap.size]? = _
      rw [old2 _ _ (by go_size), old2 _ _ (by go_size), old2 _ _ (by go_size)]; exact new_at _ _ rfl
    have xv : ((((w.alloc (.cells #[.pointer (some ⟨gu, 0, none⟩)] 117)).alloc (.cells #[.string nm, .int .i64 n] 134)).alloc (.cells #[.pointer (some ⟨gp, 0, none⟩)] 75)).alloc (.cells #[.int .i64 0] 3)).drew.heap[w.heap.size + 1]? = some (.cells #[.string nm, .int .i64 n] 134 (0, 0)) := by
      show (World.alloc _ _).heap[w.heap.size + 1]? = _
      rw [old2 _ _ (by go_size), old2 _ _ (by go_size)]; exact new_at _ _ (by go_size)
    have xq : ((((w.alloc (.cells #[.pointer (some ⟨gu, 0, none⟩)] 117)).alloc (.cells #[.string nm, .int .i64 n] 134)).alloc (.cells #[.pointer (some ⟨gp, 0, none⟩)] 75)).alloc (.cells #[.int .i64 0] 3)).drew.heap[w.heap.size + 1 + 1]? = some (.cells #[.pointer (some ⟨gp, 0, none⟩)] 75 (0, 0)) := by
      show (World.alloc _ _).heap[w.heap.size + 1 + 1]? = _
      rw [old2 _ _ (by go_size)]; exact new_at _ _ (by go_size)
    have xi : ((((w.alloc (.cells #[.pointer (some ⟨gu, 0, none⟩)] 117)).alloc (.cells #[.string nm, .int .i64 n] 134)).alloc (.cells #[.pointer (some ⟨gp, 0, none⟩)] 75)).alloc (.cells #[.int .i64 0] 3)).drew.heap[w.heap.size + 1 + 1 + 1]? = some (.cells #[.int .i64 0] 3 (0, 0)) := new_at _ _ (by go_size)
    have hBV : Below w.heap.size w ((((w.alloc (.cells #[.pointer (some ⟨gu, 0, none⟩)] 117)).alloc (.cells #[.string nm, .int .i64 n] 134)).alloc (.cells #[.pointer (some ⟨gp, 0, none⟩)] 75)).alloc (.cells #[.int .i64 0] 3)).drew := (((((oalloc w _).alloc (by go_size) _).alloc (by go_size) _).alloc (by go_size) _)).drew
    have hmV : ((((w.alloc (.cells #[.pointer (some ⟨gu, 0, none⟩)] 117)).alloc (.cells #[.string nm, .int .i64 n] 134)).alloc (.cells #[.pointer (some ⟨gp, 0, none⟩)] 75)).alloc (.cells #[.int .i64 0] 3)).drew.heap[mi]? = some (.map #[] 0) := hm4
    obtain ⟨V, hV⟩ : ∃ V, V = ((((w.alloc (.cells #[.pointer (some ⟨gu, 0, none⟩)] 117)).alloc (.cells #[.string nm, .int .i64 n] 134)).alloc (.cells #[.pointer (some ⟨gp, 0, none⟩)] 75)).alloc (.cells #[.int .i64 0] 3)).drew := ⟨_, rfl⟩
    rw [← hV] at xb xv xq xi hBV hmV ⊢
    have xp := (hBV.block _ hgp).trans hp
    clear hm3 hm4 hlk3 hlk4 hV
    obtain ⟨W5, hup, hg5⟩ := upd_empty nm n 0 mi V.drew hmV
    have kp : ∀ {q : Nat} {c : Array Value} {t : TypeId}, V.heap[q]? = some (.cells c t (0, 0)) → W5.heap[q]? = some (.cells c t (0, 0)) := fun {q c t} hq => (hg5.block q (blk_lt hq) (by intro e; injection e with e; subst e; rw [hmV] at hq; cases hq)).trans hq
    have XB := Lib.hid (kp xb)
    have XV := Lib.hid (kp xv)
    have XQ := Lib.hid (kp xq)
    have XI := Lib.hid (kp xi)
    have XP := Lib.hid (kp xp)
    have v0 : V.cell? ⟨w.heap.size + 1, 0, none⟩ = some (.string nm) := blk_cell xv rfl
    have v1 : V.cell? ⟨w.heap.size + 1, 1, none⟩ = some (.int .i64 n) := blk_cell xv rfl
    have vq : V.cell? ⟨w.heap.size + 1 + 1, 0, none⟩ = some (.pointer (some ⟨gp, 0, none⟩)) := blk_cell xq rfl
    have vi : V.cell? ⟨w.heap.size + 1 + 1 + 1, 0, none⟩ = some (.int .i64 0) := blk_cell xi rfl
    have vp : V.cell? ⟨gp, 2, none⟩ = some (.map (some mi)) := blk_cell xp rfl
    have zv := blk_lt xv
    have zq := blk_lt xq
    have zi := blk_lt xi
    have zp := blk_lt xp
    have HC5 : Hid (Ch gp (some mi) w W5) := ⟨hg5.os.trans hBV.os, hg5.tape.trans hBV.tape, hg5.output.trans hBV.output, Nat.le_trans hBV.size hg5.size, fun i hi _ h2 => by rw [hg5.block i (Nat.lt_of_lt_of_le hi hBV.size) h2]; exact hBV.block i hi⟩
    have hz5 : w.heap.size ≤ W5.heap.size := Nat.le_trans hBV.size hg5.size
    clear xb xv xq xi xp hBV hg5 kp hmV
    go_region
    all_goals go_wp2_with fail
    all_goals
      have hrow : ((W5.alloc (.cells #[.string nm, .int .i64 n] 134)).drew).ownsRow w.heap.size 134 2 (.slice none 0 0) 0 [] := World.ownsRow_nil _ _ _ _
      obtain ⟨v', w', happ, hr', hgr⟩ := app1 114 134 _ 2 24 Tryz.underlying114 infoV rfl (by decide) (by decide) hrow (by simp; omega) [.string nm, .int .i64 n] rfl W5.heap.size (new_at _ _ rfl) (by intro u hu; simp at hu; rcases hu with rfl | rfl <;> rfl) (by omega)
      have kq : ∀ {q : Nat} {o : Obj}, W5.heap[q]? = some o → w'.heap[q]? = some o := fun {q o} hq => (hgr.block q (by have := blk_lt hq; simp; omega) (by simp [Value.ownBlock])).trans ((old2 _ _ (blk_lt hq)).trans hq)
      have p1 : W5.cell? ⟨gp, 1, none⟩ = some (.slice none 0 0) := blk_cell XP.out rfl
      have q1 : W5.cell? ⟨w.heap.size + 1 + 1, 0, none⟩ = some (.pointer (some ⟨gp, 0, none⟩)) := blk_cell XQ.out rfl
      have s0 : W5.cell? ⟨w.heap.size + 1, 0, none⟩ = some (.string nm) := blk_cell XV.out rfl
      have s1 : W5.cell? ⟨w.heap.size + 1, 1, none⟩ = some (.int .i64 n) := blk_cell XV.out rfl
      have y1 : w'.cell? ⟨gp, 1, none⟩ = some (.slice none 0 0) := blk_cell (kq XP.out) rfl
      have y2 : w'.cell? ⟨w.heap.size + 1 + 1, 0, none⟩ = some (.pointer (some ⟨gp, 0, none⟩)) := blk_cell (kq XQ.out) rfl
      have yf : w'.frozen? ⟨gp, 1, none⟩ = false := blk_froz (kq XP.out)
      have z1 := blk_lt XP.out
      have z2 := blk_lt XQ.out
      have z3 := blk_lt XV.out
      have z4 := blk_lt (kq XP.out)
      have z5 := blk_lt (kq XQ.out)
      obtain ⟨va, vc, rfl⟩ := row_shape hr'
      have HFIN : Hid (((w'.setCell ⟨gp, 1, none⟩ (.slice va 1 vc)).heap[w.heap.size]? = some (.cells #[.pointer (some ⟨gu, 0, none⟩)] 117 (0, 0)) ∧ (w'.setCell ⟨gp, 1, none⟩ (.slice va 1 vc)).heap[w.heap.size + 1 + 1]? = some (.cells #[.pointer (some ⟨gp, 0, none⟩)] 75 (0, 0)) ∧ (w'.setCell ⟨gp, 1, none⟩ (.slice va 1 vc)).heap[w.heap.size + 1 + 1 + 1]? = some (.cells #[.int .i64 (0 : Nat)] 3 (0, 0))) ∧ ((w'.setCell ⟨gp, 1, none⟩ (.slice va 1 vc)).heap[gp]? = some (.cells #[.int .i64 f, .slice va 1 vc, .map (some mi)] 116 (0, 0)) ∧ (w'.setCell ⟨gp, 1, none⟩ (.slice va 1 vc)).ownsRow w.heap.size 134 2 (.slice va 1 vc) 1 [.string nm, .int .i64 n]) ∧ Ch gp (some mi) w (w'.setCell ⟨gp, 1, none⟩ (.slice va 1 vc))) := by
        refine ⟨⟨?_, ?_, ?_⟩, ⟨blk_set (kq XP.out), row_set hr' hgp⟩, ?_⟩
        · rw [Below.heap_setCell _ _ _ _ (by show w.heap.size ≠ gp; omega)]; exact kq XB.out
        · rw [Below.heap_setCell _ _ _ _ (by show w.heap.size + 1 + 1 ≠ gp; omega)]; exact kq XQ.out
        · rw [Below.heap_setCell _ _ _ _ (by show w.heap.size + 1 + 1 + 1 ≠ gp; omega)]; exact kq XI.out
        · have hS := gset w' gp 1 (.slice va 1 vc)
          refine ⟨hS.os.trans (hgr.os.trans HC5.out.os), hS.tape.trans (hgr.tape.trans HC5.out.tape), hS.output.trans (hgr.output.trans HC5.out.output), ?_, fun i hi h1 h2 => ?_⟩
          · have := hgr.size; have := HC5.out.size; simp at *; omega
          · rw [Below.heap_setCell _ _ _ _ h1, hgr.block i (by have := HC5.out.size; simp; omega) (by simp [Value.ownBlock])]
            exact (old2 _ _ (Nat.lt_of_lt_of_le hi HC5.out.size)).trans (HC5.out.block i hi h1 h2)
      clear hrow hr' hgr kq XB XV XQ XI XP HC5
      go_region_law (refine step_app1 rfl _ _ _ _ rfl _ _ rfl rfl happ ?_)
      all_goals
        go_wp2_with fail
        go_ret
        exact ⟨⟨w.heap.size, w.heap.size + 1 + 1, w.heap.size + 1 + 1 + 1, rfl, HFIN.out.1.1, HFIN.out.1.2.1, HFIN.out.1.2.2⟩, ⟨va, vc, HFIN.out.2.1⟩, HFIN.out.2.2⟩

end Go.Proofs.YtagkmgdjkailkaaGreatDoor
