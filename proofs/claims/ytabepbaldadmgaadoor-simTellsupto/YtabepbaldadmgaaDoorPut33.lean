/- The statements' own alive. The document's own Step: the end, and plain instructions. -/
import Derived.Test.YtabepbaldadmgaaDoorSnU
import Derived.Test.YtabepbaldadmgaaDoorPut16
namespace Go.Proofs.YtabepbaldadmgaaDoor
open Go.RowKit Isa
def m0 : Ma := newM 8 [225, 5, 195, 0]
theorem m0E : runE 9 m0 = 0 := by kernel_rfl
theorem m0r : (runM 9 m0).r 1 = 5 := by kernel_rfl
theorem m0s : (runM 9 m0).st = 2 := by kernel_rfl
theorem m0l : (runM 9 m0).by'.length = 4 := by kernel_rfl
theorem m0t : (runM 9 m0).told = [] := by kernel_rfl
theorem m0e : stepE m0 = 0 := by kernel_rfl
theorem m0d : stepD m0 = false := by kernel_rfl
theorem m0p : (stepM m0).pc = 10 := by kernel_rfl
theorem m0R : Runs m0 0 := ⟨by decide, by decide, by decide, by decide, fun k => by show in32 0; exact ⟨by decide, by decide⟩, ⟨by decide, by decide⟩, ⟨by decide, by decide⟩, by decide, by decide⟩
theorem m0rest : (runM 9 m0).by'.length * 1 ≤ 140737488355328 ∧ (runM 9 m0).told.length * 8 ≤ 140737488355328 := by rw [m0l, m0t]; decide

theorem newbox (W : World) (z c : Array Value) : Below W.heap.size W ((W.alloc (.cells z 29)).setRow W.heap.size c) ∧ ((W.alloc (.cells z 29)).setRow W.heap.size c).heap[W.heap.size]? = some (.cells c 29 (0, 0)) :=
  ⟨below_setRow (oalloc _ _) (Nat.le_refl _) _, setRow_heap _ _ _ _ _ _ (blk_new W z 29)⟩
theorem img3 {W : World} {g : Nat} {a b c : Value} (h : W.heap[g]? = some (.cells #[a, b, c] 26 (0, 0))) : W.cell? ⟨g, 0, none⟩ = some a ∧ W.cell? ⟨g, 1, none⟩ = some b ∧ W.cell? ⟨g, 2, none⟩ = some c := ⟨cell_of_block (i := 0) h rfl, cell_of_block (i := 1) h rfl, cell_of_block (i := 2) h rfl⟩

theorem mcsX {W : World} {g : Nat} {m : Ma} {ba : Option Addr} {bc : Nat} {sv : Value} {ta : Option Addr} {tc : Nat} (h : W.heap[g]? = some (.cells (mC m ba bc sv ta tc) 29 (0, 0))) : W.cell? ⟨g, 17, none⟩ = some (.int .i64 m.pc) ∧ W.cell? ⟨g, 23, none⟩ = some (.int .i64 m.st) := ⟨cell_of_block (i := 17) h rfl, cell_of_block (i := 23) h rfl⟩

/-- A row loaded by an operation whose guard is met. -/
theorem wpList_load_rowG {P : Program} {ops : Array Oper} {rest : List Oper} {o : Oper} {a : Act} {w : World} {Q : Exit → Act → World → Prop} (hw : Region.wanted o (yielded ops a.tmps) = true) (ty : TypeId) (x : Operand) (ho : o.op = .load ty x) (g : Nat) (hx : a.eval x = .pointer (some ⟨g, 0, none⟩)) (t : TypeId) (cs : Array Value) (fr : Nat × Nat) (d : TypeDesc) (hg : w.heap[g]? = some (.cells cs t fr)) (hu : P.underlying ty = some d) (hd : (match d with | .struct _ | .array _ _ => true | _ => false) = true) (hi : (P.info? ty).map (·.size) = some cs.size)
    (h : wpList P ops Q rest (a.put o.dst (.agg cs)) w) : wpList P ops Q (o :: rest) a w :=
  wpList_step fun K hK => by rw [if_pos hw]; exact wp_load_row ty x ho g hx t cs fr d hg hu hd hi (hK _ _ h)

theorem fld4 (y0 y1 y2 y3 y4 y5 y6 y7 y8 y9 y10 y11 y12 y13 y14 y15 : Int) (yt : Bool) (y17 y18 y19 : Int) (gb yc : Nat) (sv tv : Value) (y23 : Int) (W : World) : (Instr.field 29 (.agg #[.int .i64 y0, .int .i64 y1, .int .i64 y2, .int .i64 y3, .int .i64 y4, .int .i64 y5, .int .i64 y6, .int .i64 y7, .int .i64 y8, .int .i64 y9, .int .i64 y10, .int .i64 y11, .int .i64 y12, .int .i64 y13, .int .i64 y14, .int .i64 y15, .bool yt, .int .i64 y17, .int .i64 y18, .int .i64 y19, .slice (some ⟨gb, 0, none⟩) 4 yc, sv, tv, .int .i64 y23]) 4).run Tryd.prog W = .ok (.agg #[.int .i64 y19, .slice (some ⟨gb, 0, none⟩) 4 yc, sv]) W := by kernel_rfl
theorem fld1 (x : Int) (y z : Value) (W : World) : (Instr.field 26 (.agg #[.int .i64 x, y, z]) 1).run Tryd.prog W = .ok y W := by kernel_rfl
theorem fld0 (x : Int) (y z : Value) (W : World) : (Instr.field 26 (.agg #[.int .i64 x, y, z]) 0).run Tryd.prog W = .ok (.int .i64 x) W := by kernel_rfl

/-- What New, Run, Step, Own and Image answer of the image that alive asks about. -/
structure Al (w : World) (g : Nat) (W : World) : Prop where
  bel : Below w.heap.size w W
  la : Laid W
  row : W.heap[g]? = some (.cells #[.int .u8 225, .int .u8 5, .int .u8 195, .int .u8 0] 5 (0, 0))
  box : W.heap[g + 1]? = some (.cells #[.int .i64 8, .slice (some ⟨g, 0, none⟩) 4 4, .slice none 0 0] 26 (0, 0))
theorem Al.next {w : World} {g : Nat} {W W' : World} (h : Al w g W) (hb : Below W.heap.size W W') : Al w g W' := ⟨h.bel.trans (hb.mono h.bel.size), h.la.below hb h.la.sz, (hb.block _ (Array.getElem?_eq_some_iff.1 h.row).1).trans h.row, (hb.block _ (Array.getElem?_eq_some_iff.1 h.box).1).trans h.box⟩
theorem Al.brd {w : World} {g : Nat} {W : World} (h : Al w g W) : BRd W (some ⟨g, 0, none⟩) [225, 5, 195, 0] := fun _ => by
  refine ⟨g, 0, rfl, (Array.getElem?_eq_some_iff.1 h.row).1, fun i hi => ?_⟩
  rw [Nat.zero_add]
  refine cell_of_block h.row ?_
  obtain rfl | rfl | rfl | rfl : i = 0 ∨ i = 1 ∨ i = 2 ∨ i = 3 := by simp at hi; omega
  all_goals rfl
theorem nosy (W : World) : SrcOf W none ([] : List Sy).length (scells []) := fun h => absurd h (by decide)
theorem Al.new {w : World} {g : Nat} {W : World} (h : Al w g W) : Calls Tryd.prog 11 #[.agg #[.int .i64 8, .slice (some ⟨g, 0, none⟩) 4 4, .slice none 0 0]] W fun e w' => ∃ v, e = .returned v ∧ Below W.heap.size W w' ∧ Al w g w' ∧ MV w' v m0 [] := by
  refine (pnew_any 8 [225, 5, 195, 0] (some ⟨g, 0, none⟩) 4 [] none 0 W h.brd (nosy W) (by decide) (by decide)).mono ?_
  rintro e w' ⟨gb, gs, rfl, hb, _, _, h1, h2⟩
  refine ⟨_, rfl, hb, h.next hb, _, _, _, _, _, _, rfl, fun _ => ?_, fun h0 => absurd h0 (by decide), src_of_block h2 (scells_len [])⟩
  refine ⟨gb, 0, rfl, (Array.getElem?_eq_some_iff.1 h1).1, fun i hi => ?_⟩
  rw [Nat.zero_add]
  refine cell_of_block h1 ?_
  have hi4 : i < 4 := hi
  obtain rfl | rfl | rfl | rfl : i = 0 ∨ i = 1 ∨ i = 2 ∨ i = 3 := by omega
  all_goals rfl
theorem Al.run {w : World} {g : Nat} {W : World} (h : Al w g W) {v : Value} (hv : MV W v m0 []) : Calls Tryd.prog 15 #[v, .int .i64 9] W fun e w' => ∃ ba bc s0 s2 ta tc, e = .returned (.tuple #[.agg (mC (runM 9 m0) ba bc (.slice s0 0 s2) ta tc), .int .i64 0]) ∧ Al w g w' ∧ BRd w' ba (runM 9 m0).by' ∧ TRd w' ta (runM 9 m0).told ∧ SrcOf w' s0 0 (scells []) := by
  refine (run_in m0 [] v 9 W hv h.la m0R (by decide) (by decide)).mono ?_
  rintro e w' ⟨v', rfl, hb, h1⟩
  rcases h1 with ⟨h1, _⟩ | ⟨_, h1⟩
  · exact absurd m0E h1
  · obtain ⟨ba, bc, s0, s2, ta, tc, rfl, h2, h3, h4⟩ := h1.mv
    exact ⟨ba, bc, s0, s2, ta, tc, by rw [m0E]; rfl, h.next hb, h2, h3, h4⟩
theorem Al.step {w : World} {g : Nat} {W : World} (h : Al w g W) {v : Value} (hv : MV W v m0 []) : Calls Tryd.prog 7 #[v] W fun e w' => ∃ ba bc s0 s2 ta tc, e = .returned (.tuple #[.agg (mC (stepM m0) ba bc (.slice s0 0 s2) ta tc), .bool false, .int .i64 0]) ∧ Below W.heap.size W w' ∧ Al w g w' := by
  refine (sstep_any m0 0 [] v W hv h.la m0R (by decide) (by decide)).mono ?_
  rintro e w' ⟨v', rfl, hb, h1⟩
  rcases h1 with ⟨h1, _⟩ | ⟨_, h1⟩
  · exact absurd m0e h1
  · obtain ⟨ba, bc, s0, s2, ta, tc, rfl, h2, h3, h4⟩ := h1.mv
    exact ⟨ba, bc, s0, s2, ta, tc, by rw [m0e, m0d]; rfl, hb, h.next hb⟩
theorem Al.own {w : World} {g : Nat} {W : World} (h : Al w g W) {ba : Option Addr} {bc : Nat} {s0 : Option Addr} {s2 : Nat} {ta : Option Addr} {tc : Nat} (h2 : BRd W ba (runM 9 m0).by') (h3 : TRd W ta (runM 9 m0).told) (h4 : SrcOf W s0 0 (scells [])) : Calls Tryd.prog 10 #[.agg (mC (runM 9 m0) ba bc (.slice s0 0 s2) ta tc)] W fun e w' => ∃ (gb yc : Nat) (sv tv : Value) (y0 y1 y2 y3 y4 y5 y6 y7 y8 y9 y10 y11 y12 y13 y14 y15 : Int) (yt : Bool) (y17 y18 y19 y23 : Int), e = .returned (.agg #[.int .i64 (y0), .int .i64 (y1), .int .i64 (y2), .int .i64 (y3), .int .i64 (y4), .int .i64 (y5), .int .i64 (y6), .int .i64 (y7), .int .i64 (y8), .int .i64 (y9), .int .i64 (y10), .int .i64 (y11), .int .i64 (y12), .int .i64 (y13), .int .i64 (y14), .int .i64 (y15), .bool yt, .int .i64 y17, .int .i64 y18, .int .i64 y19, .slice (some ⟨gb, 0, none⟩) 4 yc, sv, tv, .int .i64 y23]) ∧ Al w g w' := by
  refine (pown_any (runM 9 m0) ba bc [] s0 s2 ta tc W h2 h4 h3 m0rest.1 (by decide) m0rest.2).mono ?_
  rintro e w' ⟨gb, gs, gt, rfl, hb, _⟩
  refine ⟨gb, 4, .slice (some ⟨gs, 0, none⟩) 0 0, .slice (some ⟨gt, 0, none⟩) (runM 9 m0).told.length (runM 9 m0).told.length, (runM 9 m0).r 0, (runM 9 m0).r 1, (runM 9 m0).r 2, (runM 9 m0).r 3, (runM 9 m0).r 4, (runM 9 m0).r 5, (runM 9 m0).r 6, (runM 9 m0).r 7, (runM 9 m0).r 8, (runM 9 m0).r 9, (runM 9 m0).r 10, (runM 9 m0).r 11, (runM 9 m0).r 12, (runM 9 m0).r 13, (runM 9 m0).r 14, (runM 9 m0).r 15, (runM 9 m0).t, (runM 9 m0).pc, (runM 9 m0).pr, (runM 9 m0).base, (runM 9 m0).st, ?_, h.next hb⟩
  unfold mC
  rw [m0l]
  rfl
theorem Al.img {w : World} {g : Nat} {W : World} (h : Al w g W) : Calls Tryd.prog 14 #[.agg #[.int .i64 8, .slice (some ⟨g, 0, none⟩) 4 4, .slice none 0 0]] W fun e w' => ∃ x y, e = .returned (.agg #[.int .i64 8, x, y]) ∧ Al w g w' := by
  refine (pimage_any 8 [225, 5, 195, 0] (some ⟨g, 0, none⟩) 4 [] none 0 W h.brd (nosy W) (by decide) (by decide)).mono ?_
  rintro e w' ⟨gb, gs, rfl, hb, _⟩
  exact ⟨_, _, rfl, h.next hb⟩

set_option maxHeartbeats 8000000 in
set_option maxRecDepth 100000 in
theorem alive_any (w : World) (hL : Laid w) : Calls Tryd.prog 17 #[] w fun e w' => e = .returned (.bool true) ∧ Below w.heap.size w w' := by
  obtain ⟨V, hV⟩ : ∃ V, V = (w.alloc (.cells #[.int .u8 225, .int .u8 5, .int .u8 195, .int .u8 0] 5)).alloc (.cells #[.int .i64 8, .slice (some ⟨w.heap.size, 0, none⟩) 4 4, .slice none 0 0] 26) := ⟨_, rfl⟩
  have hV0 : Below w.heap.size w V := by rw [hV]; exact (oalloc _ _).trans ((oalloc _ _).mono (by simp))
  have hV1 : V.heap[w.heap.size]? = some (.cells #[.int .u8 225, .int .u8 5, .int .u8 195, .int .u8 0] 5 (0, 0)) := by rw [hV, (oalloc _ _).block _ (by simp)]; exact blk_new _ _ _
  have hV2 : V.heap[w.heap.size + 1]? = some (.cells #[.int .i64 8, .slice (some ⟨w.heap.size, 0, none⟩) 4 4, .slice none 0 0] 26 (0, 0)) := by
    rw [hV]
    have := blk_new (w.alloc (.cells #[.int .u8 225, .int .u8 5, .int .u8 195, .int .u8 0] 5)) #[.int .i64 8, .slice (some ⟨w.heap.size, 0, none⟩) 4 4, .slice none 0 0] 26
    simpa using this
  have HA : Hid (Al w w.heap.size V) := ⟨hV0, hL.below hV0 hL.sz, hV1, hV2⟩
  have HV := Lib.hid hV.symm
  have HX := Lib.hid hV2
  clear hV hV0 hV1 hV2 hL
  go_enter Tryd.func17, Tryd.ntmps17
  go_upto_region 2 with fail
  rw [HV.out]
  clear HV
  obtain ⟨x0, x1, x2⟩ := img3 HX.out
  go_wp2_with (first | (go_at_call 11; refine HA.out.new.mono ?_; rintro e W1 ⟨v1, rfl, _, ha1, hv1⟩; have HA1 := Lib.hid ha1; have HV1 := Lib.hid hv1; clear ha1 hv1 HA) | (go_at_call 15; refine (HA1.out.run HV1.out).mono ?_; rintro e W2 ⟨ba, bc, s0, s2, ta, tc, rfl, ha2, hb2, ht2, hs2⟩; have HA2 := Lib.hid ha2; have HB2 := Lib.hid hb2; have HT2 := Lib.hid ht2; have HS2 := Lib.hid hs2; have HN2 := Lib.hid (blk_new W2 #[.int .i64 0, .int .i64 0, .int .i64 0, .int .i64 0, .int .i64 0, .int .i64 0, .int .i64 0, .int .i64 0, .int .i64 0, .int .i64 0, .int .i64 0, .int .i64 0, .int .i64 0, .int .i64 0, .int .i64 0, .int .i64 0, .bool false, .int .i64 0, .int .i64 0, .int .i64 0, .slice none 0 0, .slice none 0 0, .slice none 0 0, .int .i64 0] 29); clear ha2 hb2 ht2 hs2) | (refine wpList_store_row rfl 29 _ _ rfl W2.heap.size (mC (runM 9 m0) ba bc (.slice s0 0 s2) ta tc) rfl rfl 29 #[.int .i64 0, .int .i64 0, .int .i64 0, .int .i64 0, .int .i64 0, .int .i64 0, .int .i64 0, .int .i64 0, .int .i64 0, .int .i64 0, .int .i64 0, .int .i64 0, .int .i64 0, .int .i64 0, .int .i64 0, .int .i64 0, .bool false, .int .i64 0, .int .i64 0, .int .i64 0, .slice none 0 0, .slice none 0 0, .slice none 0 0, .int .i64 0] HN2.out (mSize _ _ _ _ _ _) rfl (mAll _ _ _ _ _ _ _ _) ?_; obtain ⟨hbx, hqx⟩ := newbox W2 #[.int .i64 0, .int .i64 0, .int .i64 0, .int .i64 0, .int .i64 0, .int .i64 0, .int .i64 0, .int .i64 0, .int .i64 0, .int .i64 0, .int .i64 0, .int .i64 0, .int .i64 0, .int .i64 0, .int .i64 0, .int .i64 0, .bool false, .int .i64 0, .int .i64 0, .int .i64 0, .slice none 0 0, .slice none 0 0, .slice none 0 0, .int .i64 0] (mC (runM 9 m0) ba bc (.slice s0 0 s2) ta tc); generalize World.setRow _ W2.heap.size _ = X2 at hbx hqx ⊢; have HA3 := Lib.hid (HA2.out.next hbx); have HB3 := Lib.hid (HB2.out.next hbx); have HT3 := Lib.hid (HT2.out.next hbx); have HS3 := Lib.hid (HS2.out.below hbx (Nat.le_refl _)); have HQ3 := Lib.hid hqx; obtain ⟨z0, z1, z2⟩ := img3 HA3.out.box; clear hbx hqx HN2 HA2 HB2 HT2 HS2) | (go_at_call 11; refine HA3.out.new.mono ?_; rintro e W4 ⟨v4, rfl, hb4, ha4, hv4⟩; have HL4 := Lib.hid hb4; have HA4 := Lib.hid ha4; have HV4 := Lib.hid hv4; clear ha4 hv4 hb4) | (go_at_call 7; refine (HA4.out.step HV4.out).mono ?_; rintro e W5 ⟨ba2, bc2, s02, s22, ta2, tc2, rfl, hb5, ha5⟩; have HL5 := Lib.hid (HL4.out.trans (hb5.mono HL4.out.size)); have HA5 := Lib.hid ha5; have HN5 := Lib.hid (blk_new W5 #[.int .i64 0, .int .i64 0, .int .i64 0, .int .i64 0, .int .i64 0, .int .i64 0, .int .i64 0, .int .i64 0, .int .i64 0, .int .i64 0, .int .i64 0, .int .i64 0, .int .i64 0, .int .i64 0, .int .i64 0, .int .i64 0, .bool false, .int .i64 0, .int .i64 0, .int .i64 0, .slice none 0 0, .slice none 0 0, .slice none 0 0, .int .i64 0] 29); clear hb5 ha5) | (refine wpList_store_row rfl 29 _ _ rfl W5.heap.size (mC (stepM m0) ba2 bc2 (.slice s02 0 s22) ta2 tc2) rfl rfl 29 #[.int .i64 0, .int .i64 0, .int .i64 0, .int .i64 0, .int .i64 0, .int .i64 0, .int .i64 0, .int .i64 0, .int .i64 0, .int .i64 0, .int .i64 0, .int .i64 0, .int .i64 0, .int .i64 0, .int .i64 0, .int .i64 0, .bool false, .int .i64 0, .int .i64 0, .int .i64 0, .slice none 0 0, .slice none 0 0, .slice none 0 0, .int .i64 0] HN5.out (mSize _ _ _ _ _ _) rfl (mAll _ _ _ _ _ _ _ _) ?_; obtain ⟨hbx, hqx⟩ := newbox W5 #[.int .i64 0, .int .i64 0, .int .i64 0, .int .i64 0, .int .i64 0, .int .i64 0, .int .i64 0, .int .i64 0, .int .i64 0, .int .i64 0, .int .i64 0, .int .i64 0, .int .i64 0, .int .i64 0, .int .i64 0, .int .i64 0, .bool false, .int .i64 0, .int .i64 0, .int .i64 0, .slice none 0 0, .slice none 0 0, .slice none 0 0, .int .i64 0] (mC (stepM m0) ba2 bc2 (.slice s02 0 s22) ta2 tc2); generalize World.setRow _ W5.heap.size _ = X5 at hbx hqx ⊢; have hL := HL5.out.trans (hbx.mono HL5.out.size); have HA6 := Lib.hid (HA5.out.next hbx); have HB6 := Lib.hid (HB3.out.next hL); have HT6 := Lib.hid (HT3.out.next hL); have HS6 := Lib.hid (HS3.out.below hL (Nat.le_refl _)); have hq6 := (hL.block _ (Array.getElem?_eq_some_iff.1 HQ3.out).1).trans HQ3.out; have HQ6 := Lib.hid hq6; have p1 : X5.cell? ⟨W2.heap.size, 1, none⟩ = some (.int .i64 5) := (by rw [← m0r]; exact cell_of_block hq6 (mC_reg _ _ _ _ _ _ 1 (by decide))); have p23 : X5.cell? ⟨W2.heap.size, 23, none⟩ = some (.int .i64 2) := (by rw [← m0s]; exact (mcsX hq6).2); have p17 : X5.cell? ⟨W5.heap.size, 17, none⟩ = some (.int .i64 10) := (by rw [← m0p]; exact (mcsX hqx).1); obtain ⟨z0', z1', z2'⟩ := img3 HA6.out.box; clear hbx hqx hL hq6 HN5 HA5 HB3 HT3 HS3 HQ3 HL5 HL4 z0 z1 z2 x0 x1 x2) | (refine wpList_load_rowG (by rfl) 29 _ rfl W2.heap.size rfl 29 (mC (runM 9 m0) ba bc (.slice s0 0 s2) ta tc) (0, 0) _ HQ6.out Tryd.underlying29 rfl (mSize _ _ _ _ _ _) ?_) | (go_at_call 10; refine (HA6.out.own HB6.out HT6.out HS6.out).mono ?_; rintro e W7 ⟨gb, yc, sv, tv, y0, y1, y2, y3, y4, y5, y6, y7, y8, y9, y10, y11, y12, y13, y14, y15, yt, y17, y18, y19, y23, rfl, ha7⟩; have HA7 := Lib.hid ha7; obtain ⟨u0, u1, u2⟩ := img3 ha7.box; have hf1 := fld4 y0 y1 y2 y3 y4 y5 y6 y7 y8 y9 y10 y11 y12 y13 y14 y15 yt y17 y18 y19 gb yc sv tv y23; have hf2 := fld1 y19 (.slice (some ⟨gb, 0, none⟩) 4 yc) sv; clear ha7) | (go_at_call 14; refine HA7.out.img.mono ?_; rintro e W8 ⟨i1, i2, rfl, ha8⟩; have HA8 := Lib.hid ha8.bel; have hf3 := fld0 8 i1 i2; clear ha8) | fail)
  go_ret
  exact ⟨rfl, HA8.out⟩

end Go.Proofs.YtabepbaldadmgaaDoor

namespace Go.Proofs.YtabepbaldadmgaaDoor
open Go.RowKit Isa

theorem SB.stp {w : World} {M : Ma} {ba : Option Addr} {bc : Nat} {sv : Value} {ta : Option Addr} {tc : Nat} {W : World} (h : SB w M ba bc sv ta tc W) (v : Int) : SB w { M with st := v } ba bc sv ta tc (W.setCell ⟨w.heap.size, 23, none⟩ (.int .i64 v)) :=
  ⟨h.bel.setCell (Nat.le_refl _) _, by rw [_root_.Go.heap_setCell_same W w.heap.size 23 _ 29 _ h.b1]; rfl, by rw [Below.heap_setCell _ _ _ _ (by show w.heap.size + 1 ≠ w.heap.size; omega)]; exact h.b2⟩
theorem SB.prp {w : World} {M : Ma} {ba : Option Addr} {bc : Nat} {sv : Value} {ta : Option Addr} {tc : Nat} {W : World} (h : SB w M ba bc sv ta tc W) (v : Int) : SB w { M with pr := v } ba bc sv ta tc (W.setCell ⟨w.heap.size, 18, none⟩ (.int .i64 v)) :=
  ⟨h.bel.setCell (Nat.le_refl _) _, by rw [_root_.Go.heap_setCell_same W w.heap.size 18 _ 29 _ h.b1]; rfl, by rw [Below.heap_setCell _ _ _ _ (by show w.heap.size + 1 ≠ w.heap.size; omega)]; exact h.b2⟩
theorem SB.pcp {w : World} {M : Ma} {ba : Option Addr} {bc : Nat} {sv : Value} {ta : Option Addr} {tc : Nat} {W : World} (h : SB w M ba bc sv ta tc W) (v : Int) : SB w { M with pc := v } ba bc sv ta tc (W.setCell ⟨w.heap.size, 17, none⟩ (.int .i64 v)) :=
  ⟨h.bel.setCell (Nat.le_refl _) _, by rw [_root_.Go.heap_setCell_same W w.heap.size 17 _ 29 _ h.b1]; rfl, by rw [Below.heap_setCell _ _ _ _ (by show w.heap.size + 1 ≠ w.heap.size; omega)]; exact h.b2⟩
theorem SB.lt {w : World} {M : Ma} {ba : Option Addr} {bc : Nat} {sv : Value} {ta : Option Addr} {tc : Nat} {W : World} (h : SB w M ba bc sv ta tc W) : w.heap.size < W.heap.size := (Array.getElem?_eq_some_iff.1 h.b1).1

set_option maxRecDepth 100000 in
set_option maxHeartbeats 4000000 in
/-- The end. -/
theorem step_end (hDec : DecOk) (m : Ma) (ba : Option Addr) (bc : Nat) (s0 : Option Addr) (s1 s2 : Nat) (ta : Option Addr) (tc : Nat) (w : World) (hM : MOk m) (hp0 : -2147483648 ≤ m.pc) (hp1 : m.pc ≤ 4294967296) (hs0 : 0 ≤ m.st) (hs1 : m.st ≤ 1000000000) (hR : BRd w ba m.by') (he : fetchE m m.pc = 0) (h27 : fV m m.pc 0 = 27) (h0 : fV m m.pc 3 = 0) :
    Calls Tryd.prog 8 #[.agg (mC m ba bc (.slice s0 s1 s2) ta tc)] w fun e w' => e = .returned (.tuple #[.agg (mC ({ m with st := m.st + 1 }) ba bc (.slice s0 s1 s2) ta tc), .bool true, .int .i64 0]) ∧ Below w.heap.size w w' := by
  have HS : Hid (SB w m ba bc (.slice s0 s1 s2) ta tc ((w.alloc (.cells (mC m ba bc (.slice s0 s1 s2) ta tc) 29)).alloc (.cells #[.int .i64 0, .int .i64 0, .int .i64 0, .int .i64 0, .int .i64 0, .int .i64 0, .int .i64 0, .int .i64 0, .int .i64 0, .int .i64 0, .int .i64 0, .int .i64 0, .int .i64 0, .int .i64 0, .int .i64 0, .int .i64 0, .bool false, .int .i64 0, .int .i64 0, .int .i64 0, .slice none 0 0, .slice none 0 0, .slice none 0 0, .int .i64 0] 29))) := SB.start w m ba bc (.slice s0 s1 s2) ta tc _ rfl
  have HF := Lib.hid (fetch_any hDec m ba bc (.slice s0 s1 s2) ta tc m.pc ((w.alloc (.cells (mC m ba bc (.slice s0 s1 s2) ta tc) 29)).alloc (.cells #[.int .i64 0, .int .i64 0, .int .i64 0, .int .i64 0, .int .i64 0, .int .i64 0, .int .i64 0, .int .i64 0, .int .i64 0, .int .i64 0, .int .i64 0, .int .i64 0, .int .i64 0, .int .i64 0, .int .i64 0, .int .i64 0, .bool false, .int .i64 0, .int .i64 0, .int .i64 0, .slice none 0 0, .slice none 0 0, .slice none 0 0, .int .i64 0] 29)) (hR.next HS.out.bel) hM.b0 hM.b1 (by have := hM.bl; omega) (by omega) (by omega))
  have HNO := Lib.hid no_any
  have HLE := Lib.hid leads_any
  rw [he] at HF
  obtain ⟨c16, c17, c18, c23, f17, f18, f23⟩ := HS.out.cells
  rw [h27, h0] at HF
  clear hDec hR hM he h27 h0
  generalize fV m m.pc 1 = d1 at *
  generalize fV m m.pc 2 = d2 at *
  go_enter Tryd.func8, Tryd.ntmps8
  go_wp2_with (first | (refine wpList_load_row rfl 29 _ rfl w.heap.size rfl 29 (mC (m) ba bc (.slice s0 s1 s2) ta tc) (0, 0) _ HS.out.b1 Tryd.underlying29 rfl (mSize _ _ _ _ _ _) ?_) | (go_at_call 23; refine HF.out.mono ?_; rintro e W1 ⟨rfl, hb1⟩; have HS1 := Lib.hid (HS.out.next hb1); clear hb1 c16 c17 c18 c23 f17 f18 f23; obtain ⟨c16, c17, c18, c23, f17, f18, f23⟩ := HS1.out.cells; have hlt1 := HS1.out.lt; have HS2 := Lib.hid ((HS1.out.stp (m.st + 1)).next (oalloc _ (.cells #[.int .i64 27, .int .i64 d1, .int .i64 d2, .int .i64 0] 45)))) | (refine wpList_load_row rfl 29 _ rfl w.heap.size rfl 29 (mC ({ m with st := m.st + 1 }) ba bc (.slice s0 s1 s2) ta tc) (0, 0) _ HS2.out.b1 Tryd.underlying29 rfl (mSize _ _ _ _ _ _) ?_) | (refine wpList_store_row rfl 29 _ _ rfl (w.heap.size + 1) (mC ({ m with st := m.st + 1 }) ba bc (.slice s0 s1 s2) ta tc) rfl rfl 29 zC HS2.out.b2 (mSize _ _ _ _ _ _) rfl (mAll _ _ _ _ _ _ _ _) ?_) | fail)
  exact bodyPost_ret (v := .tuple #[.agg (mC ({ m with st := m.st + 1 }) ba bc (.slice s0 s1 s2) ta tc), .bool true, .int .i64 0]) (res_s Tryd.results8 rfl rfl rfl (setRow_heap _ _ _ _ _ _ HS2.out.b2) (mSize _ _ _ _ _ _)) rfl ⟨rfl, below_setRow HS2.out.bel (by omega) _⟩

end Go.Proofs.YtabepbaldadmgaaDoor
