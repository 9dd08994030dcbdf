import Derived.Test.YtfmljailbebfgaaGreatDoorPut40
set_option maxHeartbeats 16000000
namespace Go.Proofs.YtfmljailbebfgaaGreatDoor
open Go.RowKit
theorem qFT {w : World} {R : Nat} {a b c d e f : Value} {t : TypeId} (h : w.heap[R]? = some (.cells #[a, b, c, d, e, f] t (0, 0))) : ((w.cell? ⟨R, 0, none⟩ = some a /\ w.cell? ⟨R, 1, none⟩ = some b /\ w.cell? ⟨R, 2, none⟩ = some c) /\ (w.cell? ⟨R, 3, none⟩ = some d /\ w.cell? ⟨R, 4, none⟩ = some e /\ w.cell? ⟨R, 5, none⟩ = some f)) /\ (w.frozen? ⟨R, 0, none⟩ = false /\ w.frozen? ⟨R, 1, none⟩ = false /\ w.frozen? ⟨R, 2, none⟩ = false) /\ w.frozen? ⟨R, 3, none⟩ = false /\ w.frozen? ⟨R, 4, none⟩ = false /\ w.frozen? ⟨R, 5, none⟩ = false := by
 refine ⟨⟨⟨?_, ?_, ?_⟩, ?_, ?_, ?_⟩, ⟨?_, ?_, ?_⟩, ?_, ?_, ?_⟩ <;> simp [World.cell?, World.frozen?, h]
theorem qER (gu : Nat) (op n m imm : Int) (fn : Fn) (fa fc : Array Value) (w : World) (hL : Isa.Laid w) :
  Calls Tryz.prog 170 #[.pointer (some ⟨gu, 0, none⟩), .agg #[.int .i64 op, .int .i64 n, .int .i64 m, .int .i64 imm], .func fn fa fc] w fun r w' =>
   (∃ gt gi, r = .returned (itV 0 2 1 2 (if Isa.qL op = 4 then .func (.func 202) #[] #[.pointer (some ⟨gt, 0, none⟩)] else .nilFunc) (.func (.func 198) #[] #[.pointer (some ⟨gt, 0, none⟩), .pointer (some ⟨gi, 0, none⟩)]))
    /\ w'.heap[gt]? = some (.cells #[.func fn fa fc] 270 (0, 0)) /\ w'.heap[gi]? = some (.cells #[.int .i64 op, .int .i64 n, .int .i64 m, .int .i64 imm] 73 (0, 0))) /\ Below w.heap.size w w' := by
 have HI := Lib.hid fun W (hb : Below w.heap.size w W) => Isa.qFr op W (hL.below hb hL.sz)
 generalize Isa.qL op = sh at *
 generalize Isa.qBZ op = nm at *
 clear hL
 unfold itV
 by_cases h4 : sh = 4
 ·subst h4
  simp only [↓reduceIte]
  go_enter Tryz.func170, Tryz.ntmps170
  go_wp2_with fail
  refine (HI.out _ (by go_grown)).mono ?_
  rintro e w1 ⟨rfl, hb1⟩
  have xi : w1.heap[w.heap.size]? = some (.cells #[.int .i64 op, .int .i64 n, .int .i64 m, .int .i64 imm] 73 (0, 0)) := by
   rw [hb1.block _ (by go_size), old2 _ _ (by go_size), old2 _ _ (by go_size), old2 _ _ (by go_size)]; exact qH _ _ rfl
  have xt : w1.heap[w.heap.size + 1]? = some (.cells #[.func fn fa fc] 270 (0, 0)) := by
   rw [hb1.block _ (by go_size), old2 _ _ (by go_size), old2 _ _ (by go_size)]; exact qH _ _ (by go_size)
  have xr : w1.heap[w.heap.size + 1 + 1]? = some (.cells #[.int .i64 0, .int .i64 0, .int .i64 0, .int .i64 0, .nilFunc, .nilFunc] 200 (0, 0)) := by
   rw [hb1.block _ (by go_size), old2 _ _ (by go_size)]; exact qH _ _ (by go_size)
  have xx : w1.heap[w.heap.size + 1 + 1 + 1]? = some (.cells #[.int .i64 0, .int .i64 2, .int .i64 1, .int .i64 2, .nilFunc, .func (.func 198) #[] #[.pointer (some ⟨w.heap.size + 1, 0, none⟩), .pointer (some ⟨w.heap.size, 0, none⟩)]] 200 (0, 0)) := by
   rw [hb1.block _ (by go_size)]; exact qH _ _ (by go_size)
  have HB1 : Hid (Below w.heap.size w w1) := Below.trans (by go_grown) (hb1.mono (by go_size))
  obtain ⟨⟨⟨a0, a1, a2⟩, a3, a4, a5⟩, ⟨e0, e1, e2⟩, e3, e4, e5⟩ := qFT xr
  obtain ⟨⟨⟨b0, b1, b2⟩, b3, b4, b5⟩, ⟨g0, g1, g2⟩, g3, g4, g5⟩ := qFT xx
  have hz := qC xx
  have XI := Lib.hid xi
  have XT := Lib.hid xt
  clear hb1 xi xt xr xx HI
  go_wp2_with fail
  refine bodyPost_ret (v := .agg #[.int .i64 0, .int .i64 2, .int .i64 1, .int .i64 2, .func (.func 202) #[] #[.pointer (some ⟨w.heap.size + 1, 0, none⟩)], .func (.func 198) #[] #[.pointer (some ⟨w.heap.size + 1, 0, none⟩), .pointer (some ⟨w.heap.size, 0, none⟩)]]) (by simp [results, Tryz.results170, go_sem, a0, a1, a2, a3, a4, a5]) rfl ⟨⟨w.heap.size + 1, w.heap.size, rfl, ?_, ?_⟩, ?_⟩
  ·rw [Below.heap_setCell _ _ _ _ (by show w.heap.size + 1 ≠ w.heap.size + 1 + 1; omega), Below.heap_setCell _ _ _ _ (by show w.heap.size + 1 ≠ w.heap.size + 1 + 1; omega), Below.heap_setCell _ _ _ _ (by show w.heap.size + 1 ≠ w.heap.size + 1 + 1; omega), Below.heap_setCell _ _ _ _ (by show w.heap.size + 1 ≠ w.heap.size + 1 + 1; omega), Below.heap_setCell _ _ _ _ (by show w.heap.size + 1 ≠ w.heap.size + 1 + 1; omega), Below.heap_setCell _ _ _ _ (by show w.heap.size + 1 ≠ w.heap.size + 1 + 1; omega), Below.heap_setCell _ _ _ _ (by show w.heap.size + 1 ≠ w.heap.size + 1 + 1 + 1; omega)]
   exact XT.out
  ·rw [Below.heap_setCell _ _ _ _ (by show w.heap.size ≠ w.heap.size + 1 + 1; omega), Below.heap_setCell _ _ _ _ (by show w.heap.size ≠ w.heap.size + 1 + 1; omega), Below.heap_setCell _ _ _ _ (by show w.heap.size ≠ w.heap.size + 1 + 1; omega), Below.heap_setCell _ _ _ _ (by show w.heap.size ≠ w.heap.size + 1 + 1; omega), Below.heap_setCell _ _ _ _ (by show w.heap.size ≠ w.heap.size + 1 + 1; omega), Below.heap_setCell _ _ _ _ (by show w.heap.size ≠ w.heap.size + 1 + 1; omega), Below.heap_setCell _ _ _ _ (by show w.heap.size ≠ w.heap.size + 1 + 1 + 1; omega)]
   exact XI.out
  ·exact (((((((HB1.out.setCell (p := ⟨w.heap.size + 1 + 1 + 1, 4, none⟩) (by show w.heap.size <= w.heap.size + 1 + 1 + 1; omega) _).setCell (p := ⟨w.heap.size + 1 + 1, 0, none⟩) (by show w.heap.size <= w.heap.size + 1 + 1; omega) _).setCell (p := ⟨w.heap.size + 1 + 1, 1, none⟩) (by show w.heap.size <= w.heap.size + 1 + 1; omega) _).setCell (p := ⟨w.heap.size + 1 + 1, 2, none⟩) (by show w.heap.size <= w.heap.size + 1 + 1; omega) _).setCell (p := ⟨w.heap.size + 1 + 1, 3, none⟩) (by show w.heap.size <= w.heap.size + 1 + 1; omega) _).setCell (p := ⟨w.heap.size + 1 + 1, 4, none⟩) (by show w.heap.size <= w.heap.size + 1 + 1; omega) _).setCell (p := ⟨w.heap.size + 1 + 1, 5, none⟩) (by show w.heap.size <= w.heap.size + 1 + 1; omega) _)
 ·simp only [h4, ↓reduceIte]
  have h4' : (sh == 4) = false := beq_eq_false_iff_ne.2 h4
  go_enter Tryz.func170, Tryz.ntmps170
  go_wp2_with fail
  refine (HI.out _ (by go_grown)).mono ?_
  rintro e w1 ⟨rfl, hb1⟩
  have xi : w1.heap[w.heap.size]? = some (.cells #[.int .i64 op, .int .i64 n, .int .i64 m, .int .i64 imm] 73 (0, 0)) := by
   rw [hb1.block _ (by go_size), old2 _ _ (by go_size), old2 _ _ (by go_size), old2 _ _ (by go_size)]; exact qH _ _ rfl
  have xt : w1.heap[w.heap.size + 1]? = some (.cells #[.func fn fa fc] 270 (0, 0)) := by
   rw [hb1.block _ (by go_size), old2 _ _ (by go_size), old2 _ _ (by go_size)]; exact qH _ _ (by go_size)
  have xr : w1.heap[w.heap.size + 1 + 1]? = some (.cells #[.int .i64 0, .int .i64 0, .int .i64 0, .int .i64 0, .nilFunc, .nilFunc] 200 (0, 0)) := by
   rw [hb1.block _ (by go_size), old2 _ _ (by go_size)]; exact qH _ _ (by go_size)
  have xx : w1.heap[w.heap.size + 1 + 1 + 1]? = some (.cells #[.int .i64 0, .int .i64 2, .int .i64 1, .int .i64 2, .nilFunc, .func (.func 198) #[] #[.pointer (some ⟨w.heap.size + 1, 0, none⟩), .pointer (some ⟨w.heap.size, 0, none⟩)]] 200 (0, 0)) := by
   rw [hb1.block _ (by go_size)]; exact qH _ _ (by go_size)
  have HB1 : Hid (Below w.heap.size w w1) := Below.trans (by go_grown) (hb1.mono (by go_size))
  obtain ⟨⟨⟨a0, a1, a2⟩, a3, a4, a5⟩, ⟨e0, e1, e2⟩, e3, e4, e5⟩ := qFT xr
  obtain ⟨⟨⟨b0, b1, b2⟩, b3, b4, b5⟩, ⟨g0, g1, g2⟩, g3, g4, g5⟩ := qFT xx
  have hz := qC xx
  have XI := Lib.hid xi
  have XT := Lib.hid xt
  clear hb1 xi xt xr xx HI
  go_wp2_with fail
  refine bodyPost_ret (v := .agg #[.int .i64 0, .int .i64 2, .int .i64 1, .int .i64 2, .nilFunc, .func (.func 198) #[] #[.pointer (some ⟨w.heap.size + 1, 0, none⟩), .pointer (some ⟨w.heap.size, 0, none⟩)]]) (by simp [results, Tryz.results170, go_sem, a0, a1, a2, a3, a4, a5]) rfl ⟨⟨w.heap.size + 1, w.heap.size, rfl, ?_, ?_⟩, ?_⟩
  ·rw [Below.heap_setCell _ _ _ _ (by show w.heap.size + 1 ≠ w.heap.size + 1 + 1; omega), Below.heap_setCell _ _ _ _ (by show w.heap.size + 1 ≠ w.heap.size + 1 + 1; omega), Below.heap_setCell _ _ _ _ (by show w.heap.size + 1 ≠ w.heap.size + 1 + 1; omega), Below.heap_setCell _ _ _ _ (by show w.heap.size + 1 ≠ w.heap.size + 1 + 1; omega), Below.heap_setCell _ _ _ _ (by show w.heap.size + 1 ≠ w.heap.size + 1 + 1; omega), Below.heap_setCell _ _ _ _ (by show w.heap.size + 1 ≠ w.heap.size + 1 + 1; omega)]
   exact XT.out
  ·rw [Below.heap_setCell _ _ _ _ (by show w.heap.size ≠ w.heap.size + 1 + 1; omega), Below.heap_setCell _ _ _ _ (by show w.heap.size ≠ w.heap.size + 1 + 1; omega), Below.heap_setCell _ _ _ _ (by show w.heap.size ≠ w.heap.size + 1 + 1; omega), Below.heap_setCell _ _ _ _ (by show w.heap.size ≠ w.heap.size + 1 + 1; omega), Below.heap_setCell _ _ _ _ (by show w.heap.size ≠ w.heap.size + 1 + 1; omega), Below.heap_setCell _ _ _ _ (by show w.heap.size ≠ w.heap.size + 1 + 1; omega)]
   exact XI.out
  ·exact ((((((HB1.out.setCell (p := ⟨w.heap.size + 1 + 1, 0, none⟩) (by show w.heap.size <= w.heap.size + 1 + 1; omega) _).setCell (p := ⟨w.heap.size + 1 + 1, 1, none⟩) (by show w.heap.size <= w.heap.size + 1 + 1; omega) _).setCell (p := ⟨w.heap.size + 1 + 1, 2, none⟩) (by show w.heap.size <= w.heap.size + 1 + 1; omega) _).setCell (p := ⟨w.heap.size + 1 + 1, 3, none⟩) (by show w.heap.size <= w.heap.size + 1 + 1; omega) _).setCell (p := ⟨w.heap.size + 1 + 1, 4, none⟩) (by show w.heap.size <= w.heap.size + 1 + 1; omega) _).setCell (p := ⟨w.heap.size + 1 + 1, 5, none⟩) (by show w.heap.size <= w.heap.size + 1 + 1; omega) _)
theorem infoV : (Tryz.prog.info? 203).map (fun i => (i.zero, i.size, i.bytes)) = some (some (.agg #[.string ⟨#[]⟩, .int .i64 0]), 2, 24) := by kernel_rfl
theorem chkV (e : Bool) (nm : ByteArray) (n : Int) (W : World) : (Instr.checkKey e 10000 203 (.agg #[.string nm, .int .i64 n])).run Tryz.prog W = .ok () W := by kernel_rfl
theorem fndV (nm : ByteArray) (n : Int) (W : World) : (Instr.findKey 203 (.agg #[.string nm, .int .i64 n]) []).run Tryz.prog W = .ok none W := by kernel_rfl
theorem qFF (nm : ByteArray) (n : Int) (mi : Nat) (W : World) (h : W.heap[mi]? = some (.map #[] 0)) : (Instr.lookup 183 (.map (some mi)) (.agg #[.string nm, .int .i64 n]) true).run Tryz.prog W = .ok (.tuple #[.int .i64 0, .bool false]) W := by
 unfold Instr.lookup
 simp [Sem.run_bind, run_underlying Tryz.underlying183, MapKept.run_getObj_map h, chkV, fndV, Result.andThen]
theorem qKT (nm : ByteArray) (n v : Int) (mi : Nat) (W : World) (h : W.heap[mi]? = some (.map #[] 0)) : ∃ W', (Instr.mapUpdate 183 (.map (some mi)) (.agg #[.string nm, .int .i64 n]) (.int .i64 v)).run Tryz.prog W = .ok () W' /\ W.grownBy W' (some mi) := by
 refine ⟨ChangeMaps.setBlock W mi (.map #[{ key := .agg #[.string nm, .int .i64 n], val := .int .i64 v, born := 0 }] 1), ?_, ⟨rfl, rfl, rfl, by simp [ChangeMaps.setBlock], fun i _ hi => ChangeMaps.heap_setBlock_other h _ (fun e => hi (by rw [e]))⟩⟩
 unfold Instr.mapUpdate
 simp [Sem.run_bind, run_underlying Tryz.underlying183, MapKept.run_getObj_map h, MapKept.run_setObj_map _ h, chkV, fndV, Result.andThen, ChangeMaps.setBlock]
theorem qLp (gu gp mi : Nat) (f : Int) (nm : ByteArray) (n : Int) (w : World) (hu : w.cell? ⟨gu, 5, none⟩ = some (.pointer (some ⟨gp, 0, none⟩))) (hp : w.heap[gp]? = some (.cells #[.int .i64 f, .slice none 0 0, .map (some mi)] 186 (0, 0))) (hm : w.heap[mi]? = some (.map #[] 0)) :
  Calls Tryz.prog 171 #[.pointer (some ⟨gu, 0, none⟩), .agg #[.string nm, .int .i64 n]] w fun r w' =>
   (∃ gb gq gi, r = .returned (.func (.func 204) #[] #[.pointer (some ⟨gb, 0, none⟩), .pointer (some ⟨gq, 0, none⟩), .pointer (some ⟨gi, 0, none⟩)]) /\ w'.heap[gb]? = some (.cells #[.pointer (some ⟨gu, 0, none⟩)] 187 (0, 0)) /\ w'.heap[gq]? = some (.cells #[.pointer (some ⟨gp, 0, none⟩)] 139 (0, 0)) /\ w'.heap[gi]? = some (.cells #[.int .i64 (0 : Nat)] 3 (0, 0)))
   /\ (∃ va vc, w'.heap[gp]? = some (.cells #[.int .i64 f, .slice va 1 vc, .map (some mi)] 186 (0, 0)) /\ w'.ownsRow w.heap.size 203 2 (.slice va 1 vc) 1 [.string nm, .int .i64 n]) /\ Ch gp (some mi) w w' := by
 have cp2 : w.cell? ⟨gp, 2, none⟩ = some (.map (some mi)) := qB hp rfl
 have cp1 : w.cell? ⟨gp, 1, none⟩ = some (.slice none 0 0) := qB hp rfl
 have hg : gu < w.heap.size := World.block_lt_of_cell? w _ hu
 have hgp := qC hp
 have hmi := qC hm
 have hm3 : (((w.alloc (.cells #[.pointer (some ⟨gu, 0, none⟩)] 187)).alloc (.cells #[.string nm, .int .i64 n] 203)).alloc (.cells #[.pointer (some ⟨gp, 0, none⟩)] 139)).heap[mi]? = some (.map #[] 0) := by
  rw [old2 _ _ (by go_size), old2 _ _ (by go_size), old2 _ _ (by go_size)]; exact hm
 have hm4 : ((((w.alloc (.cells #[.pointer (some ⟨gu, 0, none⟩)] 187)).alloc (.cells #[.string nm, .int .i64 n] 203)).alloc (.cells #[.pointer (some ⟨gp, 0, none⟩)] 139)).alloc (.cells #[.int .i64 0] 3)).heap[mi]? = some (.map #[] 0) := by rw [old2 _ _ (by go_size)]; exact hm3
 have hlk3 : (Instr.lookup 183 (.map (some mi)) (.agg #[.string nm, .int .i64 n]) true).run Tryz.prog (((w.alloc (.cells #[.pointer (some ⟨gu, 0, none⟩)] 187)).alloc (.cells #[.string nm, .int .i64 n] 203)).alloc (.cells #[.pointer (some ⟨gp, 0, none⟩)] 139)).drew = .ok (.tuple #[.int .i64 0, .bool false]) (((w.alloc (.cells #[.pointer (some ⟨gu, 0, none⟩)] 187)).alloc (.cells #[.string nm, .int .i64 n] 203)).alloc (.cells #[.pointer (some ⟨gp, 0, none⟩)] 139)).drew := qFF nm n mi _ hm3
 have hlk4 : (Instr.lookup 183 (.map (some mi)) (.agg #[.string nm, .int .i64 n]) true).run Tryz.prog ((((w.alloc (.cells #[.pointer (some ⟨gu, 0, none⟩)] 187)).alloc (.cells #[.string nm, .int .i64 n] 203)).alloc (.cells #[.pointer (some ⟨gp, 0, none⟩)] 139)).alloc (.cells #[.int .i64 0] 3)).drew = .ok (.tuple #[.int .i64 0, .bool false]) ((((w.alloc (.cells #[.pointer (some ⟨gu, 0, none⟩)] 187)).alloc (.cells #[.string nm, .int .i64 n] 203)).alloc (.cells #[.pointer (some ⟨gp, 0, none⟩)] 139)).alloc (.cells #[.int .i64 0] 3)).drew := qFF nm n mi _ hm4
 have zp1 : gp < w.heap.size + 1 := by omega
 have zp2 : gp < w.heap.size + 1 + 1 := by omega
 have zp3 : gp < w.heap.size + 1 + 1 + 1 := by omega
 have zu1 : gu < w.heap.size + 1 := by omega
 have zu2 : gu < w.heap.size + 1 + 1 := by omega
 have zu3 : gu < w.heap.size + 1 + 1 + 1 := by omega
 go_enter Tryz.func171, Tryz.ntmps171
 go_wp2_with fail
 go_region
 all_goals go_wp2_with fail
 all_goals
  have xb : ((((w.alloc (.cells #[.pointer (some ⟨gu, 0, none⟩)] 187)).alloc (.cells #[.string nm, .int .i64 n] 203)).alloc (.cells #[.pointer (some ⟨gp, 0, none⟩)] 139)).alloc (.cells #[.int .i64 0] 3)).drew.heap[w.heap.size]? = some (.cells #[.pointer (some ⟨gu, 0, none⟩)] 187 (0, 0)) := by
   show (World.alloc _ _).heap[w.heap.size]? = _
   rw [old2 _ _ (by go_size), old2 _ _ (by go_size), old2 _ _ (by go_size)]; exact qH _ _ rfl
  have xv : ((((w.alloc (.cells #[.pointer (some ⟨gu, 0, none⟩)] 187)).alloc (.cells #[.string nm, .int .i64 n] 203)).alloc (.cells #[.pointer (some ⟨gp, 0, none⟩)] 139)).alloc (.cells #[.int .i64 0] 3)).drew.heap[w.heap.size + 1]? = some (.cells #[.string nm, .int .i64 n] 203 (0, 0)) := by
   show (World.alloc _ _).heap[w.heap.size + 1]? = _
   rw [old2 _ _ (by go_size), old2 _ _ (by go_size)]; exact qH _ _ (by go_size)
  have xq : ((((w.alloc (.cells #[.pointer (some ⟨gu, 0, none⟩)] 187)).alloc (.cells #[.string nm, .int .i64 n] 203)).alloc (.cells #[.pointer (some ⟨gp, 0, none⟩)] 139)).alloc (.cells #[.int .i64 0] 3)).drew.heap[w.heap.size + 1 + 1]? = some (.cells #[.pointer (some ⟨gp, 0, none⟩)] 139 (0, 0)) := by
   show (World.alloc _ _).heap[w.heap.size + 1 + 1]? = _
   rw [old2 _ _ (by go_size)]; exact qH _ _ (by go_size)
  have xi : ((((w.alloc (.cells #[.pointer (some ⟨gu, 0, none⟩)] 187)).alloc (.cells #[.string nm, .int .i64 n] 203)).alloc (.cells #[.pointer (some ⟨gp, 0, none⟩)] 139)).alloc (.cells #[.int .i64 0] 3)).drew.heap[w.heap.size + 1 + 1 + 1]? = some (.cells #[.int .i64 0] 3 (0, 0)) := qH _ _ (by go_size)
  have hBV : Below w.heap.size w ((((w.alloc (.cells #[.pointer (some ⟨gu, 0, none⟩)] 187)).alloc (.cells #[.string nm, .int .i64 n] 203)).alloc (.cells #[.pointer (some ⟨gp, 0, none⟩)] 139)).alloc (.cells #[.int .i64 0] 3)).drew := (((((qD w _).alloc (by go_size) _).alloc (by go_size) _).alloc (by go_size) _)).drew
  have hmV : ((((w.alloc (.cells #[.pointer (some ⟨gu, 0, none⟩)] 187)).alloc (.cells #[.string nm, .int .i64 n] 203)).alloc (.cells #[.pointer (some ⟨gp, 0, none⟩)] 139)).alloc (.cells #[.int .i64 0] 3)).drew.heap[mi]? = some (.map #[] 0) := hm4
  obtain ⟨V, hV⟩ : ∃ V, V = ((((w.alloc (.cells #[.pointer (some ⟨gu, 0, none⟩)] 187)).alloc (.cells #[.string nm, .int .i64 n] 203)).alloc (.cells #[.pointer (some ⟨gp, 0, none⟩)] 139)).alloc (.cells #[.int .i64 0] 3)).drew := ⟨_, rfl⟩
  rw [<- hV] at xb xv xq xi hBV hmV ⊢
  have xp := (hBV.block _ hgp).trans hp
  clear hm3 hm4 hlk3 hlk4 hV
  obtain ⟨W5, hup, hg5⟩ := qKT nm n 0 mi V.drew hmV
  have kp : ∀ {q : Nat} {c : Array Value} {t : TypeId}, V.heap[q]? = some (.cells c t (0, 0)) -> W5.heap[q]? = some (.cells c t (0, 0)) := fun {q c t} hq => (hg5.block q (qC hq) (by intro e; injection e with e; subst e; rw [hmV] at hq; cases hq)).trans hq
  have XB := Lib.hid (kp xb)
  have XV := Lib.hid (kp xv)
  have XQ := Lib.hid (kp xq)
  have XI := Lib.hid (kp xi)
  have XP := Lib.hid (kp xp)
  have v0 : V.cell? ⟨w.heap.size + 1, 0, none⟩ = some (.string nm) := qB xv rfl
  have v1 : V.cell? ⟨w.heap.size + 1, 1, none⟩ = some (.int .i64 n) := qB xv rfl
  have vq : V.cell? ⟨w.heap.size + 1 + 1, 0, none⟩ = some (.pointer (some ⟨gp, 0, none⟩)) := qB xq rfl
  have vi : V.cell? ⟨w.heap.size + 1 + 1 + 1, 0, none⟩ = some (.int .i64 0) := qB xi rfl
  have vp : V.cell? ⟨gp, 2, none⟩ = some (.map (some mi)) := qB xp rfl
  have zv := qC xv
  have zq := qC xq
  have zi := qC xi
  have zp := qC xp
  have HC5 : Hid (Ch gp (some mi) w W5) := ⟨hg5.os.trans hBV.os, hg5.tape.trans hBV.tape, hg5.output.trans hBV.output, Nat.le_trans hBV.size hg5.size, fun i hi _ h2 => by rw [hg5.block i (Nat.lt_of_lt_of_le hi hBV.size) h2]; exact hBV.block i hi⟩
  have hz5 : w.heap.size <= W5.heap.size := Nat.le_trans hBV.size hg5.size
  clear xb xv xq xi xp hBV hg5 kp hmV
  go_region
  all_goals go_wp2_with fail
  all_goals
   have hrow : ((W5.alloc (.cells #[.string nm, .int .i64 n] 203)).drew).ownsRow w.heap.size 203 2 (.slice none 0 0) 0 [] := World.ownsRow_nil _ _ _ _
   obtain ⟨v', w', happ, hr', hgr⟩ := app1 184 203 _ 2 24 Tryz.underlying184 infoV rfl (by decide) (by decide) hrow (by simp; omega) [.string nm, .int .i64 n] rfl W5.heap.size (qH _ _ rfl) (by intro u hu; simp at hu; rcases hu with rfl | rfl <;> rfl) (by omega)
   have kq : ∀ {q : Nat} {o : Obj}, W5.heap[q]? = some o -> w'.heap[q]? = some o := fun {q o} hq => (hgr.block q (by have := qC hq; simp; omega) (by simp [Value.ownBlock])).trans ((old2 _ _ (qC hq)).trans hq)
   have p1 : W5.cell? ⟨gp, 1, none⟩ = some (.slice none 0 0) := qB XP.out rfl
   have q1 : W5.cell? ⟨w.heap.size + 1 + 1, 0, none⟩ = some (.pointer (some ⟨gp, 0, none⟩)) := qB XQ.out rfl
   have s0 : W5.cell? ⟨w.heap.size + 1, 0, none⟩ = some (.string nm) := qB XV.out rfl
   have s1 : W5.cell? ⟨w.heap.size + 1, 1, none⟩ = some (.int .i64 n) := qB XV.out rfl
   have y1 : w'.cell? ⟨gp, 1, none⟩ = some (.slice none 0 0) := qB (kq XP.out) rfl
   have y2 : w'.cell? ⟨w.heap.size + 1 + 1, 0, none⟩ = some (.pointer (some ⟨gp, 0, none⟩)) := qB (kq XQ.out) rfl
   have yf : w'.frozen? ⟨gp, 1, none⟩ = false := qE (kq XP.out)
   have z1 := qC XP.out
   have z2 := qC XQ.out
   have z3 := qC XV.out
   have z4 := qC (kq XP.out)
   have z5 := qC (kq XQ.out)
   obtain ⟨va, vc, rfl⟩ := qG hr'
   have HFIN : Hid (((w'.setCell ⟨gp, 1, none⟩ (.slice va 1 vc)).heap[w.heap.size]? = some (.cells #[.pointer (some ⟨gu, 0, none⟩)] 187 (0, 0)) /\ (w'.setCell ⟨gp, 1, none⟩ (.slice va 1 vc)).heap[w.heap.size + 1 + 1]? = some (.cells #[.pointer (some ⟨gp, 0, none⟩)] 139 (0, 0)) /\ (w'.setCell ⟨gp, 1, none⟩ (.slice va 1 vc)).heap[w.heap.size + 1 + 1 + 1]? = some (.cells #[.int .i64 (0 : Nat)] 3 (0, 0))) /\ ((w'.setCell ⟨gp, 1, none⟩ (.slice va 1 vc)).heap[gp]? = some (.cells #[.int .i64 f, .slice va 1 vc, .map (some mi)] 186 (0, 0)) /\ (w'.setCell ⟨gp, 1, none⟩ (.slice va 1 vc)).ownsRow w.heap.size 203 2 (.slice va 1 vc) 1 [.string nm, .int .i64 n]) /\ Ch gp (some mi) w (w'.setCell ⟨gp, 1, none⟩ (.slice va 1 vc))) := by
    refine ⟨⟨?_, ?_, ?_⟩, ⟨qP (kq XP.out), qAT hr' hgp⟩, ?_⟩
    ·rw [Below.heap_setCell _ _ _ _ (by show w.heap.size ≠ gp; omega)]; exact kq XB.out
    ·rw [Below.heap_setCell _ _ _ _ (by show w.heap.size + 1 + 1 ≠ gp; omega)]; exact kq XQ.out
    ·rw [Below.heap_setCell _ _ _ _ (by show w.heap.size + 1 + 1 + 1 ≠ gp; omega)]; exact kq XI.out
    ·have hS := gset w' gp 1 (.slice va 1 vc)
     refine ⟨hS.os.trans (hgr.os.trans HC5.out.os), hS.tape.trans (hgr.tape.trans HC5.out.tape), hS.output.trans (hgr.output.trans HC5.out.output), ?_, fun i hi h1 h2 => ?_⟩
     ·have := hgr.size; have := HC5.out.size; simp at *; omega
     ·rw [Below.heap_setCell _ _ _ _ h1, hgr.block i (by have := HC5.out.size; simp; omega) (by simp [Value.ownBlock])]
      exact (old2 _ _ (Nat.lt_of_lt_of_le hi HC5.out.size)).trans (HC5.out.block i hi h1 h2)
   clear hrow hr' hgr kq XB XV XQ XI XP HC5
   go_region_law (refine qBw rfl _ _ _ _ rfl _ _ rfl rfl happ ?_)
   all_goals
    go_wp2_with fail
    go_ret
    exact ⟨⟨w.heap.size, w.heap.size + 1 + 1, w.heap.size + 1 + 1 + 1, rfl, HFIN.out.1.1, HFIN.out.1.2.1, HFIN.out.1.2.2⟩, ⟨va, vc, HFIN.out.2.1⟩, HFIN.out.2.2⟩
def qDc (W W' : World) : Prop := W.heap.size <= W'.heap.size /\ ∀ (q : Nat) (o : Obj), W.heap[q]? = some o -> (∀ c f, o ≠ .cells c 143 f) -> (∀ c f, o ≠ .cells c 200 f) -> W'.heap[q]? = some o
theorem qDc.of {W W' : World} (h : Below W.heap.size W W') : qDc W W' := ⟨h.size, fun q o hb _ _ => by rw [h.block q (qC hb)]; exact hb⟩
theorem qDc.trans {A B C : World} (h : qDc A B) (k : qDc B C) : qDc A C := ⟨Nat.le_trans h.1 k.1, fun q o hb h1 h2 => k.2 q o (h.2 q o hb h1 h2) h1 h2⟩
theorem qCU (gu B : Nat) (e nv lm pp pv rv fa by' : Value) (ln li : Int) (x : It) (its : List It) (w : World) (h : UR w B gu e ln nv lm pp pv rv its) (hx : x.line = ln) (hg : GenR w gu x fa by') (hn : its.length <= 100000) :
  Calls Tryz.prog 96 #[.pointer (some ⟨gu, 0, none⟩), itV li x.size x.upTo x.align fa by'] w fun r w' => r = .returned (.tuple #[]) /\ UR w' B gu e ln nv lm pp pv rv (its ++ [x]) /\ Fr gu B w w' /\ qDc w w' := by
 obtain ⟨iv, l, h1, h2, h3, h4⟩ := h.its
 obtain ⟨hfa, hby⟩ := hg.shape
 refine (add_any gu B its.length e nv lm iv pp pv rv fa by' ln li x.size x.upTo x.align (itC l) w h.le h1 h2 h.lt hn hfa hby).mono ?_
 rintro r w' ⟨rfl, ⟨iv', k1, k2⟩, k3, k4⟩
 have hk : qDc w w' := ⟨k3.size, fun q o hb t1 t2 => by
  rw [k4 q (qC hb) (by rintro rfl; rw [h1] at hb; injection hb with hb; exact t1 _ _ hb.symm) (by
   rcases h2.2 with ⟨h5, _⟩ | ⟨g, cap, cur, h5, h6, h7, _⟩
   ·rw [h5]; simp [Value.ownBlock]
   ·rw [h5]
    intro e0
    have e1 : q = g := by simpa [Value.ownBlock] using e0
    subst e1
    rw [h7] at hb
    injection hb with hb
    exact t2 _ _ hb.symm)]
  exact hb⟩
 have hku : qKH w w' := ⟨hk.1, fun q c t f hb ht => hk.2 q _ hb (by rintro c' f' e0; injection e0 with _ e1; subst e1; exact absurd ht (by decide)) (by rintro c' f' e0; injection e0 with _ e1; subst e1; exact absurd ht (by decide))⟩
 refine ⟨rfl, ⟨h.lt, Nat.le_trans h.le k3.size, iv', l ++ [(x, fa, by')], k1, ?_, by simp [h3], ?_⟩, k3, hk⟩
 ·have e1 : itC (l ++ [(x, fa, by')]) = itC l ++ [.int .i64 ln, .int .i64 x.size, .int .i64 x.upTo, .int .i64 x.align, fa, by'] := by simp [itC, hx]
  rw [e1, List.length_append]
  exact k2
 ·intro p hp
  rcases List.mem_append.1 hp with hp | hp
  ·exact (h4 p hp).keep hku
  ·simp only [List.mem_singleton] at hp
   subst hp
   exact hg.keep hku
theorem qG6 (gu B : Nat) (e nv lm pp pv rv : Value) (ln : Int) (its : List It) (name : ByteArray) (ops : List Opd) (oa : Option Addr) (oc : Nat) (op : Int) (w : World) (h : UR w B gu e ln nv lm pp pv rv its) (hL : Isa.Laid w) (hF : qG3 w) (hr : OpsR w oa ops) (hn : ops.length <= 1000) (hkd : ∀ o, o ∈ ops -> o.kd.data.toList.length = 1) (hnm : ∀ o, o ∈ ops -> o.kd.toList = kdN -> o.nm = ⟨#[]⟩)
  (hnot : qAV ops ≠ [61, 114]) (hpl : (qAV ops).head? ≠ some 112) (hop : qBy name ⟨(qAV ops).toArray⟩ 12 0 = op) (h0 : op ≠ 0) (hw : Isa.qW (ops.foldl qV ⟨op, 0, 0, 0⟩).op (ops.foldl qV ⟨op, 0, 0, 0⟩).n (ops.foldl qV ⟨op, 0, 0, 0⟩).m (ops.foldl qV ⟨op, 0, 0, 0⟩).imm = 0) (hits : its.length <= 100000) :
  Calls Tryz.prog 136 #[.pointer (some ⟨gu, 0, none⟩), .string name, .slice oa ops.length oc] w fun r w' => r = .returned (.int .i64 0) /\ UR w' B gu e ln nv lm pp pv rv (its ++ [qAI ln (ops.foldl qV ⟨op, 0, 0, 0⟩).op (ops.foldl qV ⟨op, 0, 0, 0⟩).n (ops.foldl qV ⟨op, 0, 0, 0⟩).m (ops.foldl qV ⟨op, 0, 0, 0⟩).imm]) /\ Fr gu B w w' /\ qDc w w' := by
 have kpO : ∀ {W : World}, Below w.heap.size w W -> OpsR W oa ops := fun {W} hb => hr.keep fun hq => by rw [hb.block _ (qC hq)]; exact hq
 have HFO := Lib.hid fun W (hb : Below w.heap.size w W) => qDn ops oa oc W (kpO hb) hn hkd
 have HFD := Lib.hid fun W (hb : Below w.heap.size w W) => qD4 name ⟨(qAV ops).toArray⟩ W (hL.below hb hL.sz) (hF.below hb hF.sz)
 have HFL := Lib.hid fun W (hb : Below w.heap.size w W) => qEv op ops oa oc W (hL.below hb hL.sz) (kpO hb) hn hnm
 rw [hop] at HFD
 rw [hw] at HFL
 have HPL := Lib.hid fun W => qML (ops.foldl qV ⟨op, 0, 0, 0⟩).op (ops.foldl qV ⟨op, 0, 0, 0⟩).n (ops.foldl qV ⟨op, 0, 0, 0⟩).m (ops.foldl qV ⟨op, 0, 0, 0⟩).imm W
 have HU := Lib.hid h
 have HAD := Lib.hid fun W g (hb : Below w.heap.size w W) (hg : W.heap[g]? = some (.cells #[.int .i64 (ops.foldl qV ⟨op, 0, 0, 0⟩).op, .int .i64 (ops.foldl qV ⟨op, 0, 0, 0⟩).n, .int .i64 (ops.foldl qV ⟨op, 0, 0, 0⟩).m, .int .i64 (ops.foldl qV ⟨op, 0, 0, 0⟩).imm] 73 (0, 0))) => qCU gu B e nv lm pp pv rv .nilFunc (.func (.func 207) #[] #[.pointer (some ⟨g, 0, none⟩)]) ln 0 (qAI ln (ops.foldl qV ⟨op, 0, 0, 0⟩).op (ops.foldl qV ⟨op, 0, 0, 0⟩).n (ops.foldl qV ⟨op, 0, 0, 0⟩).m (ops.foldl qV ⟨op, 0, 0, 0⟩).imm) its W (HU.out.go hb) rfl ⟨rfl, g, rfl, hg⟩ hits
 have HFW : Hid (∀ W W', Below w.heap.size w W -> Fr gu B W W' -> Fr gu B w W') := fun W W' hb hf => (Fr.below (hb.mono HU.out.le)).trans hf
 unfold itV at HPL HAD
 simp only [qAI] at HAD
 have hf1 : (qAV ops == [61, 114]) = false := beq_eq_false_iff_ne.2 hnot
 have h0' : (op == 0) = false := beq_eq_false_iff_ne.2 h0
 clear hL hF hr kpO hkd hnm hw h
 generalize ops.foldl qV ⟨op, 0, 0, 0⟩ = fi at *
 obtain ⟨fo, fn, fm, fi⟩ := fi
 simp only at *
 obtain ⟨FM, hFM⟩ : ∃ FM, qAV ops = FM := ⟨_, rfl⟩
 rw [hFM] at HFO HFD hf1 hpl
 clear hFM hop hnot
 have HHP : Hid (∀ W, Calls Tryz.prog 147 #[.string ⟨FM.toArray⟩, .string ⟨#[112]⟩] W fun e w' => e = .returned (.bool false) /\ W = w') := fun W => by
  refine (Tryz.strings_HasPrefix ⟨FM.toArray⟩ ⟨#[112]⟩ W).mono ?_
  rintro e w' ⟨rfl, rfl⟩
  refine ⟨?_, rfl⟩
  congr 2
  simp only
  cases FM with
  | nil => rfl
  | cons a r =>
    have ha : a ≠ 112 := by simpa using hpl
    show (List.isPrefixOf [112] (a :: r)) = false
    simp only [List.isPrefixOf, Bool.and_eq_false_iff, beq_eq_false_iff_ne]
    exact .inl (Ne.symm ha)
 go_enter Tryz.func136, Tryz.ntmps136
 go_wp2_with fail
 refine (HFO.out _ (by go_grown)).mono ?_
 rintro e w1 ⟨rfl, hb1⟩
 have hB1 : Below w.heap.size w w1 := Below.trans (by go_grown) (hb1.mono (by go_size))
 have xu : w1.heap[w.heap.size]? = some (.cells #[.pointer (some ⟨gu, 0, none⟩)] 187 (0, 0)) := by rw [hb1.block _ (by go_size), old2 _ _ (by go_size)]; exact qH _ _ rfl
 have xl : w1.heap[w.heap.size + 1]? = some (.cells #[.slice oa ops.length oc] 193 (0, 0)) := by rw [hb1.block _ (by go_size)]; exact qH _ _ (by go_size)
 have HB1 := Lib.hid hB1
 have XU := Lib.hid xu
 have XL := Lib.hid xl
 have a0 : w1.cell? ⟨w.heap.size, 0, none⟩ = some (.pointer (some ⟨gu, 0, none⟩)) := qB xu rfl
 have a1 : w1.cell? ⟨w.heap.size + 1, 0, none⟩ = some (.slice oa ops.length oc) := qB xl rfl
 have z1 := qC xl
 clear hb1 hB1 xu xl HFO
 go_wp2_with (first | (go_at_call 172; refine (HFD.out _ HB1.out).mono ?_; rintro e w2 ⟨rfl, hb2⟩; have HB2 := Lib.hid (HB1.out.trans (hb2.mono HB1.out.size)); have XU2 := Lib.hid ((hb2.block _ (qC XU.out)).trans XU.out); have XL2 := Lib.hid ((hb2.block _ (qC XL.out)).trans XL.out); have b0 : w2.cell? ⟨w.heap.size, 0, none⟩ = some (.pointer (some ⟨gu, 0, none⟩)) := qB XU2.out rfl; have b1 : w2.cell? ⟨w.heap.size + 1, 0, none⟩ = some (.slice oa ops.length oc) := qB XL2.out rfl; have z2 := qC XL2.out; clear hb2) | fail)
 all_goals
  refine (HFL.out _ HB2.out).mono ?_
  rintro e w3 ⟨rfl, hb3⟩
  have HB3 := Lib.hid (HB2.out.trans (hb3.mono HB2.out.size))
  have XU3 := Lib.hid ((hb3.block _ (qC XU2.out)).trans XU2.out)
  have d0 : w3.cell? ⟨w.heap.size, 0, none⟩ = some (.pointer (some ⟨gu, 0, none⟩)) := qB XU3.out rfl
  have z3 := qC XU3.out
  clear hb3 a0 a1 b0 b1
  go_wp2_with fail
 all_goals
  refine (HHP.out _).mono ?_
  rintro e w4 ⟨rfl, rfl⟩
  go_wp2_with fail
  have HB4 : Hid (Below w.heap.size w ((w3.alloc (.cells #[.int .i64 fo, .int .i64 fn, .int .i64 fm, .int .i64 fi] 73)).drew)) := (HB3.out.alloc HB3.out.size _).drew
  have XU4 : Hid ((w3.alloc (.cells #[.int .i64 fo, .int .i64 fn, .int .i64 fm, .int .i64 fi] 73)).drew.heap[w.heap.size]? = some (.cells #[.pointer (some ⟨gu, 0, none⟩)] 187 (0, 0))) := (old2 _ _ z3).trans XU3.out
  clear HB1 HB2 HFD HFL HHP XU XL XU2 XL2
  go_region_with (first
   | (go_at_call 175; refine (HPL.out _).mono ?_; rintro e w5 ⟨⟨g, rfl, _, hgi⟩, hb5⟩; have HB5 := Lib.hid (HB4.out.trans (hb5.mono HB4.out.size)); have xu5 := (hb5.block _ (qC XU4.out)).trans XU4.out; have e0 : w5.cell? ⟨w.heap.size, 0, none⟩ = some (.pointer (some ⟨gu, 0, none⟩)) := qB xu5 rfl; have z5 := qC xu5; have HGI := Lib.hid hgi; clear hb5 xu5 hgi)
   | (go_at_call 96; refine (HAD.out _ _ HB5.out HGI.out).mono ?_; rintro e w6 ⟨rfl, hu6, hf6, hk6⟩))
 all_goals
  have HU6 := Lib.hid hu6
  have HF6 := Lib.hid (HFW.out _ _ HB5.out hf6)
  have HK6 := Lib.hid ((qDc.of HB5.out).trans hk6)
  clear hu6 hf6 hk6
  go_wp2_with fail
  go_ret
  exact ⟨rfl, HU6.out, HF6.out, HK6.out⟩
theorem UR.pool {w w' : World} {B gu gp mi : Nat} {e : Value} {ln : Int} {nv lm pp pv rv : Value} {its : List It} {c : Array Value} {es : Array MapEntry} {ck : Nat} (h : UR w B gu e ln nv lm pp pv rv its) (hc : Ch gp (some mi) w w') (hp : w.heap[gp]? = some (.cells c 186 (0, 0))) (hm : w.heap[mi]? = some (.map es ck)) : UR w' B gu e ln nv lm pp pv rv its := by
 have key : ∀ {q : Nat} {c' : Array Value} {t : TypeId}, w.heap[q]? = some (.cells c' t (0, 0)) -> t ≠ 186 -> w'.heap[q]? = some (.cells c' t (0, 0)) := fun {q c' t} hq ht => by
  rw [hc.block q (qC hq) (by rintro rfl; rw [hp] at hq; injection hq with hq; injection hq with _ e2; exact ht e2.symm) (by intro e0; injection e0 with e0; subst e0; rw [hm] at hq; cases hq)]
  exact hq
 obtain ⟨iv, l, h1, h2, h3, h4⟩ := h.its
 refine ⟨h.lt, Nat.le_trans h.le hc.size, iv, l, key h1 (by decide), ⟨h2.1, ?_⟩, h3, fun p hp' => (h4 p hp').stays fun {q c' t} hq ht => key hq (by rintro rfl; exact absurd ht (by decide))⟩
 rcases h2.2 with h5 | ⟨g, cap, cur, h5, h6, h7, h8⟩
 ·exact .inl h5
 ·exact .inr ⟨g, cap, cur, h5, h6, key h7 (by decide), h8⟩
theorem qJp (gu B gp mi : Nat) (e nv lm pv rv : Value) (ln f : Int) (its : List It) (nm : List UInt8) (n r : Int) (oa : Option Addr) (oc : Nat) (w : World) (h : UR w B gu e ln nv lm (.pointer (some ⟨gp, 0, none⟩)) pv rv its) (hL : Isa.Laid w) (hr : OpsR w oa [⟨⟨#[61]⟩, 0, ⟨nm.toArray⟩, n⟩, ⟨⟨#[114]⟩, r, ⟨#[]⟩, 0⟩]) (hp : w.heap[gp]? = some (.cells #[.int .i64 f, .slice none 0 0, .map (some mi)] 186 (0, 0))) (hm : w.heap[mi]? = some (.map #[] 0)) (hits : its.length <= 100000) (hlg : max 1 4 < gp) (hlm : max 1 4 < mi) :
  Calls Tryz.prog 136 #[.pointer (some ⟨gu, 0, none⟩), .string ⟨#[109, 111, 118, 46, 108]⟩, .slice oa 2 oc] w fun q w' => q = .returned (.int .i64 0) /\ UR w' B gu e ln nv lm (.pointer (some ⟨gp, 0, none⟩)) pv rv (its ++ [qC5 ln 24 r 0 0 (.slot gp 0)])
   /\ (∃ va vc, w'.heap[gp]? = some (.cells #[.int .i64 f, .slice va 1 vc, .map (some mi)] 186 (0, 0)) /\ w'.ownsRow w.heap.size 203 2 (.slice va 1 vc) 1 [.string ⟨nm.toArray⟩, .int .i64 n]) /\ (w'.os = w.os /\ w'.tape = w.tape /\ w'.output = w.output /\ ∀ i, i < B -> i ≠ gu -> i ≠ gp -> i ≠ mi -> w'.heap[i]? = w.heap[i]?) /\ (w.heap.size <= w'.heap.size /\ ∀ (q : Nat) (o : Obj), w.heap[q]? = some o -> (∀ c f, o ≠ .cells c 143 f) -> (∀ c f, o ≠ .cells c 200 f) -> q ≠ gp -> q ≠ mi -> w'.heap[q]? = some o) := by
 have HFO : Hid (∀ W, Below w.heap.size w W -> Calls Tryz.prog 169 #[.slice oa 2 oc] W fun r w' => r = .returned (.string ⟨#[61, 114]⟩) /\ Below W.heap.size W w') := fun W hb => qDn [⟨⟨#[61]⟩, 0, ⟨nm.toArray⟩, n⟩, ⟨⟨#[114]⟩, r, ⟨#[]⟩, 0⟩] oa oc W (hr.keep fun hq => by rw [hb.block _ (qC hq)]; exact hq) (by simp) (by intro o ho; simp at ho; rcases ho with rfl | rfl <;> rfl)
 obtain ⟨b1, rfl, cur, hbc, hcell⟩ := hr (by simp)
 obtain ⟨k0, k1, k2, k3⟩ := hcell 0 (by simp)
 obtain ⟨j0, j1, j2, j3⟩ := hcell 1 (by simp)
 simp only [List.getElem_cons_zero, List.getElem_cons_succ, Nat.zero_mul, Nat.zero_add, Nat.one_mul] at k0 k1 k2 k3 j0 j1 j2 j3
 have HBC := Lib.hid hbc
 have HU := Lib.hid h
 have HP := Lib.hid hp
 have HM := Lib.hid hm
 have HL := Lib.hid hL
 clear hcell hr h hp hm hL hbc
 go_enter Tryz.func136, Tryz.ntmps136
 go_wp2_with fail
 refine (HFO.out _ (by go_grown)).mono ?_
 rintro e w1 ⟨rfl, hb1⟩
 have hB1 : Below w.heap.size w w1 := Below.trans (by go_grown) (hb1.mono (by go_size))
 have xu : w1.heap[w.heap.size]? = some (.cells #[.pointer (some ⟨gu, 0, none⟩)] 187 (0, 0)) := by rw [hb1.block _ (by go_size), old2 _ _ (by go_size)]; exact qH _ _ rfl
 have xl : w1.heap[w.heap.size + 1]? = some (.cells #[.slice (some ⟨b1, 0, none⟩) 2 oc] 193 (0, 0)) := by rw [hb1.block _ (by go_size)]; exact qH _ _ (by go_size)
 have HB1 := Lib.hid hB1
 have XU := Lib.hid xu
 have XL := Lib.hid xl
 clear hb1 hB1 xu xl HFO
 go_wp2_with fail
 have hbc1 := (HB1.out.block _ (qC HBC.out)).trans HBC.out
 refine wp_region_noPanic ?_
 refine wp_region_held_drew (S := fun X => X.heap[w.heap.size]? = some (.cells #[.pointer (some ⟨gu, 0, none⟩)] 187 (0, 0)) /\ X.heap[w.heap.size + 1]? = some (.cells #[.slice (some ⟨b1, 0, none⟩) 2 oc] 193 (0, 0)) /\ X.heap[b1]? = some (.cells cur 237 (0, 0))) (by kernel_rfl) ⟨XU.out, XL.out, hbc1⟩ (fun hHeld => ?_)
 obtain ⟨V0, hV0⟩ : ∃ X, X = w1.drew := ⟨_, rfl⟩
 have hB0 : Below w.heap.size w V0 := by rw [hV0]; exact HB1.out.drew
 have HB0 := Lib.hid hB0
 rw [<- hV0] at hHeld ⊢
 clear hV0 hbc1 HB1 XU XL
 refine tk2 0 19 (v := ?_) ?_ hHeld ?_
 rotate_left
 ·intro w hSw
  have y0 := qA (i := 0) hSw.1 rfl
  go_simp
  try with_reducible rfl
 simp only [sA, sB, sC]
 refine tk2 1 20 (v := ?_) ?_ hHeld ?_
 rotate_left
 ·intro w hSw
  have y0 := qA (i := 0) hSw.1 rfl
  go_simp
  try with_reducible rfl
 simp only [sA, sB, sC]
 refine tk2 2 21 (v := ?_) ?_ hHeld ?_
 rotate_left
 ·intro w hSw
  have y0 := qA (i := 0) hSw.2.1 rfl
  go_simp
  try with_reducible rfl
 simp only [sA, sB, sC]
 refine tk 3 22 hHeld ?_
 simp only [sA, sB, sC]
 refine tk 4 23 hHeld ?_
 simp only [sA, sB, sC]
 refine tk2 5 24 (v := ?_) ?_ hHeld ?_
 rotate_left
 ·intro w hSw
  have y0 : w.cell? ⟨b1, 5, none⟩ = some (.int .i64 r) := qA hSw.2.2 j1
  go_simp
  try with_reducible rfl
 simp only [sA, sB, sC]
 refine tk 6 25 hHeld ?_
 simp only [sA, sB, sC]
 refine tk2 7 26 (v := ?_) ?_ hHeld ?_
 rotate_left
 ·intro w hSw
  have y0 := qA (i := 0) hSw.1 rfl
  go_simp
  try with_reducible rfl
 simp only [sA, sB, sC]
 refine tk2 8 27 (v := ?_) ?_ hHeld ?_
 rotate_left
 ·intro w hSw
  have y0 := qA (i := 0) hSw.2.1 rfl
  go_simp
  try with_reducible rfl
 simp only [sA, sB, sC]
 refine tk 9 28 hHeld ?_
 simp only [sA, sB, sC]
 refine tk 10 29 hHeld ?_
 simp only [sA, sB, sC]
 refine tk2 11 30 (v := ?_) ?_ hHeld ?_
 rotate_left
 ·intro w hSw
  have y0 : w.cell? ⟨b1, 2, none⟩ = some (.string ⟨nm.toArray⟩) := qA hSw.2.2 k2
  have y1 : w.cell? ⟨b1, 3, none⟩ = some (.int .i64 n) := qA hSw.2.2 k3
  go_simp
  try with_reducible rfl
 simp only [sA, sB, sC]
 have hU0 := HU.out.go HB0.out
 have hp0 := (HB0.out.block _ (qC HP.out)).trans HP.out
 have hm0 := (HB0.out.block _ (qC HM.out)).trans HM.out
 have c5 : V0.cell? ⟨gu, 5, none⟩ = some (.pointer (some ⟨gp, 0, none⟩)) := by obtain ⟨iv, il, u1, _⟩ := hU0.its; exact qB u1 rfl
 have hask := Lib.hid (qLp gu gp mi f ⟨nm.toArray⟩ n V0 c5 hp0 hm0)
 refine wr1 12 fun K hK => ?_
 go_simp
 refine hask.out.mono ?_
 rintro e w5 ⟨⟨gb, gq, gi, rfl, a1, a2, a3⟩, ⟨va, vc, hp5, hr5⟩, hch⟩
 have hU5 := hU0.pool hch hp0 hm0
 have kc : ∀ {q : Nat} {c : Array Value} {t : TypeId}, V0.heap[q]? = some (.cells c t (0, 0)) -> t ≠ 186 -> w5.heap[q]? = some (.cells c t (0, 0)) := fun {q c t} hq ht => by
  rw [hch.block q (qC hq) (by rintro rfl; rw [hp0] at hq; injection hq with hq; injection hq with _ e2; exact ht e2.symm) (by intro e0; injection e0 with e0; subst e0; rw [hm0] at hq; cases hq)]
  exact hq
 have hS5 := And.intro (kc hHeld.1 (by decide)) (And.intro (kc hHeld.2.1 (by decide)) (kc hHeld.2.2 (by decide)))
 have hL5 : Isa.Laid w5 := (HL.out.below HB0.out HL.out.sz).below (B := max 1 4 + 1) ⟨hch.os, hch.tape, hch.output, hch.size, fun i hi => hch.block i (by have := HL.out.sz; have := HB0.out.size; omega) (by omega) (by intro e0; injection e0 with e0; omega)⟩ (by omega)
 have hle := Lib.hid (qER gu 24 r 0 0 (.func 204) #[] #[.pointer (some ⟨gb, 0, none⟩), .pointer (some ⟨gq, 0, none⟩), .pointer (some ⟨gi, 0, none⟩)] w5 hL5)
 have HCH := Lib.hid hch
 have HU5 := Lib.hid hU5
 have HP5 := Lib.hid hp5
 have HR5 := Lib.hid hr5
 have A1 := Lib.hid a1
 have A2 := Lib.hid a2
 have A3 := Lib.hid a3
 unfold itV at hle
 rw [show Isa.qL 24 = 8 by rfl] at hle
 simp only [show ((8 : Int) = 4) = False by decide, if_false] at hle
 clear hU0 hp0 hm0 c5 hask hU5 kc hL5 hch hp5 hr5 a1 a2 a3
 go_simp
 refine hK.out _ _ hS5 (fun hHeld => ?_)
 clear hK K hS5
 refine wr1 13 fun K hK => ?_
 go_simp
 refine hle.out.mono ?_
 rintro e w6 ⟨⟨gt, gj, rfl, h1, h2⟩, hb6⟩
 have hS6 := And.intro ((hb6.block _ (qC hHeld.1)).trans hHeld.1) (And.intro ((hb6.block _ (qC hHeld.2.1)).trans hHeld.2.1) ((hb6.block _ (qC hHeld.2.2)).trans hHeld.2.2))
 have HAD := Lib.hid (qCU gu B _ nv lm _ pv rv .nilFunc (.func (.func 198) #[] #[.pointer (some ⟨gt, 0, none⟩), .pointer (some ⟨gj, 0, none⟩)]) ln 0 (qC5 ln 24 r 0 0 (.slot gp 0)) its w6 (HU5.out.go hb6) rfl ⟨gt, gj, _, by rw [if_neg (by decide)], rfl, h1, h2, ⟨gb, gq, gi, rfl, (hb6.block _ (qC A1.out)).trans A1.out, (hb6.block _ (qC A2.out)).trans A2.out, (hb6.block _ (qC A3.out)).trans A3.out⟩⟩ hits)
 unfold itV at HAD
 simp only [qC5] at HAD
 have HB6 := Lib.hid hb6
 clear hle h1 h2 hb6
 go_simp
 refine hK.out _ _ hS6 (fun hHeld => ?_)
 clear hK K hS6
 refine wr1 14 fun K hK => ?_
 go_simp
 refine HAD.out.mono ?_
 rintro e w7 ⟨rfl, hu7, hf7, hk7⟩
 have hS7 := And.intro (hk7.2 _ _ hHeld.1 (by intro c f e; cases e) (by intro c f e; cases e)) (And.intro (hk7.2 _ _ hHeld.2.1 (by intro c f e; cases e) (by intro c f e; cases e)) (hk7.2 _ _ hHeld.2.2 (by intro c f e; cases e) (by intro c f e; cases e)))
 have HU7 := Lib.hid hu7
 have HO7 := Lib.hid (And.intro hf7.os (And.intro hf7.tape (And.intro hf7.output hf7.block)))
 have HK7 := Lib.hid hk7
 clear hu7 hf7 hk7 HAD
 go_simp
 refine hK.out _ _ hS7 (fun hHeld => ?_)
 clear hK K hS7
 refine wpAnyH_done (by kernel_rfl) ?_ _
 refine NoPanic.normal ?_
 clear hHeld
 go_wp2_with fail
 go_ret
 have hp6 := (HB6.out.block _ (qC HP5.out)).trans HP5.out
 have hr6 := Sc.qh HR5.out HB6.out (Nat.le_refl _)
 refine ⟨rfl, HU7.out, ⟨va, vc, HK7.out.2 _ _ hp6 (by intro c f e; cases e) (by intro c f e; cases e), ?_⟩, ⟨HO7.out.1.trans (HB6.out.os.trans (HCH.out.os.trans HB0.out.os)), HO7.out.2.1.trans (HB6.out.tape.trans (HCH.out.tape.trans HB0.out.tape)), HO7.out.2.2.1.trans (HB6.out.output.trans (HCH.out.output.trans HB0.out.output)), fun i hi n1 n2 n3 => by
  have hle := HU.out.le
  have hz0 := HB0.out.size
  have hz1 := HCH.out.size
  rw [HO7.out.2.2.2 i hi n1, HB6.out.block i (by omega), HCH.out.block i (by omega) n2 (by intro e0; injection e0 with e0; exact n3 e0)]
  exact HB0.out.block i (by omega)⟩, ?_⟩
 ·have hle0 := HB0.out.size
  rcases hr6.2 with h5 | ⟨g, cap, cur', h5, h6, h7, h8⟩
  ·exact ⟨hr6.1, .inl h5⟩
  ·exact ⟨hr6.1, .inr ⟨g, cap, cur', h5, by omega, HK7.out.2 _ _ h7 (by intro c f e; cases e) (by intro c f e; cases e), h8⟩⟩
 ·refine ⟨Nat.le_trans HB0.out.size (Nat.le_trans HCH.out.size (Nat.le_trans HB6.out.size HK7.out.1)), fun q o hq t1 t2 n1 n2 => ?_⟩
  have q0 := (HB0.out.block _ (qC hq)).trans hq
  have q5 := (HCH.out.block q (qC q0) n1 (by intro e0; injection e0 with e0; exact n2 e0)).trans q0
  have q6 := (HB6.out.block _ (qC q5)).trans q5
  exact HK7.out.2 q o q6 t1 t2
end Go.Proofs.YtfmljailbebfgaaGreatDoor
