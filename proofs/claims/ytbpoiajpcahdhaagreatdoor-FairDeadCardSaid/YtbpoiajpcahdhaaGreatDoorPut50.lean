/- farm.answer of the source 'nop'. pllaw12.alive. pllaw12.FairDead. -/
import Derived.Test.YtbpoiajpcahdhaaGreatDoorPut25
import Derived.Test.YtbpoiajpcahdhaaGreatDoorPut49
import Derived.Test.YtbpoiajpcahdhaaGreatDoorPut27
import Derived.Lib.SmallJoins
namespace Go.Proofs.YtbpoiajpcahdhaaGreatDoor.Wi
open Go.RowKit

theorem rb_breads {w : World} {v : Value} {l : List UInt8} (h : RB w w.heap.size v l) (hl : l.length ≤ 1000000) : Sc.BReads w v l := by
  obtain ⟨ad, cap, rfl, h⟩ := h
  refine ⟨ad, cap, rfl, by unfold maxLen; omega, fun h0 => ?_⟩
  rcases h with ⟨_, _, rfl⟩ | ⟨a, rfl, _, h⟩
  · simp at h0
  · obtain ⟨b, o, rfl, hb, hc⟩ := h h0
    exact ⟨b, o, rfl, hb, hc⟩
theorem out_bk {w : World} {base : Nat} {v : Value} {l : List UInt8} (h : Li.Out w base v l) : BK w v l := Out.bk (base := base) ⟨h.1, h.2⟩
theorem nop_fine : wrongO nameR obNop = 0 := by kernel_rfl
/-- What a worker makes of 'nop'. -/
def ansNop (m : Ms) : Ms := ⟨2, m.worker, m.unit, m.turn, 0, 0, bytesO obNop⟩

/-- While an answer is laid: its bytes, and the two boxes of messages. -/
structure AK (W w : World) (v : Value) (l : List UInt8) : Prop where
  bk : BK w v l
  bel : Below W.heap.size W w
  m1 : ∃ c, w.heap[W.heap.size + 1]? = some (.cells c 71 (0, 0))
  m2 : ∃ c, w.heap[W.heap.size + 1 + 1]? = some (.cells c 71 (0, 0))
theorem AK.set1 {W w : World} {v : Value} {l : List UInt8} (h : AK W w v l) (i : Nat) (u : Value) : AK W (w.setCell ⟨W.heap.size + 1, i, none⟩ u) v l := by
  obtain ⟨c, hc⟩ := h.m1
  obtain ⟨d, hd⟩ := h.m2
  exact ⟨h.bk.oth hc (by decide), h.bel.setCell (p := ⟨W.heap.size + 1, i, none⟩) (by show W.heap.size ≤ W.heap.size + 1; omega) _, ⟨_, fblk_set hc⟩, d, by rw [Below.heap_setCell _ _ _ _ (by show W.heap.size + 1 + 1 ≠ W.heap.size + 1; omega)]; exact hd⟩
theorem AK.set2 {W w : World} {v : Value} {l : List UInt8} (h : AK W w v l) (i : Nat) (u : Value) : AK W (w.setCell ⟨W.heap.size + 1 + 1, i, none⟩ u) v l := by
  obtain ⟨c, hc⟩ := h.m1
  obtain ⟨d, hd⟩ := h.m2
  exact ⟨h.bk.oth hd (by decide), h.bel.setCell (p := ⟨W.heap.size + 1 + 1, i, none⟩) (by show W.heap.size ≤ W.heap.size + 1 + 1; omega) _, ⟨c, by rw [Below.heap_setCell _ _ _ _ (by show W.heap.size + 1 ≠ W.heap.size + 1 + 1; omega)]; exact hc⟩, _, fblk_set hd⟩

set_option maxHeartbeats 2000000 in
set_option maxRecDepth 100000 in
theorem answer_nop (w : World) (hA : AllLaid w) (m : Ms) (hm : m.data = srcNop) : AnsAt w m (ansNop m) := by
  intro W dv hb hdv
  rw [hm] at hdv
  have hAW : AllLaid W := ⟨hA.isa.below hb hA.isa.sz, hA.frm.below hb hA.frm.sz, KL.below hA.ex hb, hA.gl.below hb hA.gl.sz⟩
  have HU : Hid (∀ V, Below W.heap.size W V → Calls Tryz.prog 56 #[dv] V fun r w' => (∃ ca cl cc sa sl sc qa ql qc, r = .returned (.tuple #[.agg #[.slice ca cl cc, .slice sa sl sc, .slice qa ql qc], .agg #[.int .i64 0, .int .i64 0]]) ∧ ObjAt w' (.slice ca cl cc) (.slice sa sl sc) (.slice qa ql qc) obNop) ∧ Below V.heap.size V w') := fun V hV =>
    unit_nop dv V ⟨hAW.isa.below hV hAW.isa.sz, hAW.frm.below hV hAW.frm.sz, KL.below hAW.ex hV, hAW.gl.below hV hAW.gl.sz⟩ (rb_breads (rb_below hdv hV) (by decide))
  have HBY : Hid (∀ V cv sv rv, ObjAt V cv sv rv obNop → Calls Tryz.prog 57 #[.agg #[cv, sv, rv]] V fun e w' => ∃ v, e = .returned (.tuple #[v, .int .i64 0]) ∧ Below V.heap.size V w' ∧ Hid (BK w' v (bytesO obNop))) := fun V cv sv rv ho => by
    refine (Li.bytes_good obNop cv sv rv V ho.1 ho.2.1 ho.2.2 (by simp [obNop]) nop_fine).mono ?_
    rintro e w' ⟨v, rfl, h1, h2⟩
    exact ⟨v, rfl, h1, out_bk h2⟩
  obtain ⟨da, dc, rfl, -⟩ := id hdv
  clear hdv hAW hA hb
  obtain ⟨kind, wk, un, tu, er, pl, data⟩ := m
  unfold msV ansNop
  simp only
  go_enter Tryz.func51, Tryz.ntmps51
  go_wp2_with fail
  have hB0 : Below W.heap.size W (((W.alloc (.cells #[.int .i64 kind, .int .i64 wk, .int .i64 un, .int .i64 tu, .int .i64 er, .int .i64 pl, .slice da srcNop.length dc] 71)).alloc (.cells #[.int .i64 0, .int .i64 0, .int .i64 0, .int .i64 0, .int .i64 0, .int .i64 0, .slice none 0 0] 71)).alloc (.cells #[.int .i64 3, .int .i64 wk, .int .i64 un, .int .i64 tu, .int .i64 0, .int .i64 0, .slice none 0 0] 71)) := bnext (bnext (oalloc W _) (oalloc _ _)) (oalloc _ _)
  have ht := three W #[.int .i64 kind, .int .i64 wk, .int .i64 un, .int .i64 tu, .int .i64 er, .int .i64 pl, .slice da srcNop.length dc] #[.int .i64 0, .int .i64 0, .int .i64 0, .int .i64 0, .int .i64 0, .int .i64 0, .slice none 0 0] #[.int .i64 3, .int .i64 wk, .int .i64 un, .int .i64 tu, .int .i64 0, .int .i64 0, .slice none 0 0] 71 71 71
  refine (HU.out _ hB0).mono ?_
  rintro e w1 ⟨⟨ca, cl, cc, sa, sl, sc, qa, ql, qc, rfl, ho⟩, hb1⟩
  have x1 := (hb1.block _ (fblk_lt ht.2.1)).trans ht.2.1
  have x2 := (hb1.block _ (fblk_lt ht.2.2.1)).trans ht.2.2.1
  have HB1 := Lib.hid (bnext hB0 hb1)
  have X1 := Lib.hid x1
  have X2 := Lib.hid x2
  have c1 : ∀ i v, (#[.int .i64 0, .int .i64 0, .int .i64 0, .int .i64 0, .int .i64 0, .int .i64 0, .slice none 0 0] : Array Value)[i]? = some v → w1.cell? ⟨W.heap.size + 1, i, none⟩ = some v := fun i v h => fblk_cell x1 h
  have z2 := fblk_lt x2
  have HBZ : Hid (∀ V, Below w1.heap.size w1 V → Calls Tryz.prog 57 #[.agg #[.slice ca cl cc, .slice sa sl sc, .slice qa ql qc]] V fun e w' => ∃ ba bc, e = .returned (.tuple #[.slice ba (bytesO obNop).length bc, .int .i64 0]) ∧ Hid (Below w1.heap.size w1 w') ∧ Hid (AK W w' (.slice ba (bytesO obNop).length bc) (bytesO obNop))) := fun V hV => by
    refine (HBY.out V _ _ _ ⟨ho.1.below hV (Nat.le_refl _), ho.2.1.below hV (Nat.le_refl _), ho.2.2.below hV (Nat.le_refl _)⟩).mono ?_
    rintro e w' ⟨v, rfl, h1, h2⟩
    obtain ⟨ba, bc, rfl⟩ := h2.slice
    have hv1 := bnext hV h1
    exact ⟨ba, bc, rfl, hv1, h2, bnext HB1.out hv1, ⟨_, (hv1.block _ (fblk_lt X1.out)).trans X1.out⟩, ⟨_, (hv1.block _ (fblk_lt X2.out)).trans X2.out⟩⟩
  clear ho hb1 HU HBY hB0 ht c1 x1 x2
  go_wp2_with fail
  refine (HBZ.out _ (bnext (oalloc _ _) (oalloc _ _))).mono ?_
  rintro e w2 ⟨ba, bc, rfl, HB2, HAK⟩
  have x1 := (HB2.out.block _ (fblk_lt X1.out)).trans X1.out
  have x2 := (HB2.out.block _ (fblk_lt X2.out)).trans X2.out
  have c0 := fblk_cell (i := 0) (v := .int .i64 0) x1 rfl
  have c1 := fblk_cell (i := 1) (v := .int .i64 0) x1 rfl
  have c2 := fblk_cell (i := 2) (v := .int .i64 0) x1 rfl
  have c3 := fblk_cell (i := 3) (v := .int .i64 0) x1 rfl
  have c4 := fblk_cell (i := 4) (v := .int .i64 0) x1 rfl
  have c5 := fblk_cell (i := 5) (v := .int .i64 0) x1 rfl
  have c6 := fblk_cell (i := 6) (v := .slice none 0 0) x1 rfl
  have d0 := fblk_cell (i := 0) (v := .int .i64 3) x2 rfl
  have d1 := fblk_cell (i := 1) (v := .int .i64 wk) x2 rfl
  have d2 := fblk_cell (i := 2) (v := .int .i64 un) x2 rfl
  have d3 := fblk_cell (i := 3) (v := .int .i64 tu) x2 rfl
  have d4 := fblk_cell (i := 4) (v := .int .i64 0) x2 rfl
  have d5 := fblk_cell (i := 5) (v := .int .i64 0) x2 rfl
  have d6 := fblk_cell (i := 6) (v := .slice none 0 0) x2 rfl
  have cf : ∀ i, w2.frozen? ⟨W.heap.size + 1, i, none⟩ = false := fun i => fblk_froz x1
  have df : ∀ i, w2.frozen? ⟨W.heap.size + 1 + 1, i, none⟩ = false := fun i => fblk_froz x2
  have cz := fblk_lt x1
  have dz := fblk_lt x2
  clear HBZ HB2 HB1 X1 X2 x1 x2
  go_wp2_with fail
  have HF := ((((((((HAK.out.set2 0 (.int .i64 2)).set2 6 (.slice ba (bytesO obNop).length bc)).set1 0 (.int .i64 2)).set1 1 (.int .i64 wk)).set1 2 (.int .i64 un)).set1 3 (.int .i64 tu)).set1 4 (.int .i64 0)).set1 5 (.int .i64 0)).set1 6 (.slice ba (bytesO obNop).length bc)
  exact bodyPost_ret (v := .agg #[.int .i64 2, .int .i64 wk, .int .i64 un, .int .i64 tu, .int .i64 0, .int .i64 0, .slice ba (bytesO obNop).length bc]) (by simp [results, Tryz.results51, go_sem, c0, c1, c2, c3, c4, c5, c6]) rfl ⟨_, rfl, HF.bk.rb, HF.bel⟩

theorem all_below {w W : World} (h : AllLaid w) (hb : Below w.heap.size w W) : AllLaid W := ⟨h.isa.below hb h.isa.sz, h.frm.below hb h.frm.sz, KL.below h.ex hb, h.gl.below hb h.gl.sz⟩
theorem answers_nop (d : List Bool) (w : World) (hA : AllLaid w) : Answers (fun s => s = srcNop) ansNop d w := fun m _ h2 _ => ⟨answer_nop w hA m h2, by show (bytesO obNop).length ≤ 1000000000; decide⟩
theorem ansNop_kind (m : Ms) : (ansNop m).kind ≠ 1 := by show (2 : Int) ≠ 1; decide
end Go.Proofs.YtbpoiajpcahdhaaGreatDoor.Wi

namespace Go.Proofs.YtbpoiajpcahdhaaGreatDoor.Wi
open Go.RowKit

def fA0 : Fm := newF [srcNop] 0 2
def fA1 : Fm := tickF fA0
def fA2 : Fm := dropF fA1 0
def gA : Fm := (settleF ansNop 60 fA2).1
def rA : Fm := roundF ansNop fA2
theorem a_wrong : wrongN [srcNop] 0 2 = 0 := by kernel_rfl
theorem a_way : fA1.way.length = 1 := by kernel_rfl
theorem a_n : (settleF ansNop 60 fA2).2 = 4 := by kernel_rfl
theorem a_gd : doneF gA = true := by kernel_rfl
theorem a_fd : doneF fA2 = false := by kernel_rfl
theorem a_gj : gA.jobs.length = 1 := by kernel_rfl
theorem a_rj : rA.jobs.length = 1 := by kernel_rfl
theorem a_fj : fA2.jobs.length = 1 := by kernel_rfl
theorem a_rw : rA.way.length = 0 := by kernel_rfl

theorem fine0 : Fine (fun s => s = srcNop) 0 fA0 := new_fine a_wrong (by intro s hs; simpa using hs)
theorem fine1 : Fine (fun s => s = srcNop) 1 fA1 := fine0.tick
theorem fine2 : Fine (fun s => s = srcNop) 1 fA2 := fine1.drop 0
def stA : List (Int × Int) := [(1, 0), (3, 0)]
theorem play_alive (v sv : Value) (w : World) (hW : WL w) (hv : LS w v [srcNop]) (hs : SL w sv stA) :
    Calls Tryz.prog 8 #[v, .int .i64 0, .int .i64 2, sv] w fun e w' => ∃ v' ea, e = .returned (.tuple #[v', .slice ea 2 2, .int .i64 0]) ∧ FV w' v' fA2 ∧ Below w.heap.size w w' := by
  refine play_any [srcNop] v sv 0 2 stA (fun k => if k = 0 then fA0 else if k = 1 then fA1 else fA2) (fun _ => 0) w hv a_wrong hs (by decide) rfl ?_
  intro k hk W fv hb hfv
  have hWW : WL W := hW.below hb (Nat.le_refl _)
  match k, hk with
  | 0, _ => exact Do_tick _ 0 0 fv fA0 W hfv fine0 (by omega) hWW
  | 1, _ => exact Do_drop _ 1 fv fA1 W hfv fine1 (by rw [a_way]; exact Nat.one_pos)

theorem three_o (w : World) (a b c : Obj) : (((w.alloc a).alloc b).alloc c).heap[w.heap.size]? = some a ∧ (((w.alloc a).alloc b).alloc c).heap[w.heap.size + 1]? = some b ∧ (((w.alloc a).alloc b).alloc c).heap[w.heap.size + 1 + 1]? = some c ∧ Below w.heap.size w (((w.alloc a).alloc b).alloc c) := by
  have hn : ∀ (v : World) (o : Obj), (v.alloc o).heap[v.heap.size]? = some o := fun v o => by unfold World.alloc; simp only [Array.getElem?_push_size]
  refine ⟨?_, ?_, ?_, bnext (bnext (oalloc w _) (oalloc _ _)) (oalloc _ _)⟩
  · rw [Below.heap_alloc _ _ _ (by simp; omega), Below.heap_alloc _ _ _ (by simp)]
    exact hn _ _
  · have e : (w.alloc a).heap.size = w.heap.size + 1 := by simp
    rw [Below.heap_alloc _ _ _ (by simp), ← e]
    exact hn _ _
  · have e : ((w.alloc a).alloc b).heap.size = w.heap.size + 1 + 1 := by simp
    rw [← e]
    exact hn _ _
theorem laid_alive {w W : World} (h : W.heap[w.heap.size]? = some (.cells #[.int .u8 110, .int .u8 111, .int .u8 112] 5 (3, 4)) ∧ W.heap[w.heap.size + 1]? = some (.cells #[.slice (some ⟨w.heap.size, 0, none⟩) 3 3] 36 (0, 0)) ∧ W.heap[w.heap.size + 1 + 1]? = some (.cells #[.int .i64 1, .int .i64 0, .int .i64 3, .int .i64 0] 33 (0, 0)) ∧ Below w.heap.size w W) :
    LS W (.slice (some ⟨w.heap.size + 1, 0, none⟩) 1 1) [srcNop] ∧ SL W (.slice (some ⟨w.heap.size + 1 + 1, 0, none⟩) 2 2) stA := by
  obtain ⟨h1, h2, h3, hb⟩ := h
  refine ⟨⟨_, _, rfl, by decide, fun _ => ⟨_, _, rfl, fblk_lt h2, fun i hi => ?_⟩⟩, ⟨_, _, _, rfl, fblk_lt h3, fun i hi => ?_⟩⟩
  · have : i = 0 := by simp at hi; exact hi
    subst this
    refine ⟨_, fblk_cell h2 rfl, ⟨_, _, rfl, .inr ⟨_, rfl, Nat.le_refl 3, fun _ => ⟨_, _, rfl, fblk_lt h1, fun k hk => ?_⟩⟩⟩, by show 3 ≤ 200000000000000; decide⟩
    have hk3 : k < 3 := hk
    have : k = 0 ∨ k = 1 ∨ k = 2 := by omega
    rcases this with rfl | rfl | rfl
    · exact fblk_cell h1 rfl
    · exact fblk_cell h1 rfl
    · exact fblk_cell h1 rfl
  · have hi2 : i < 2 := hi
    have : i = 0 ∨ i = 1 := by omega
    rcases this with rfl | rfl
    · exact ⟨fblk_cell h3 rfl, fblk_cell h3 rfl⟩
    · exact ⟨fblk_cell h3 rfl, fblk_cell h3 rfl⟩

set_option maxHeartbeats 2000000 in
set_option maxRecDepth 100000 in
theorem alive_any (w : World) (hA : AllLaid w) (hW : WL w) : Calls Tryz.prog 4 #[] w fun e w' => e = .returned (.bool true) ∧ Below w.heap.size w w' := by
  have HP : Hid (∀ W v sv, Below w.heap.size w W → LS W v [srcNop] → SL W sv stA → Calls Tryz.prog 8 #[v, .int .i64 0, .int .i64 2, sv] W fun e w' => ∃ gJ cJ gD cD wa wc ea, e = .returned (.tuple #[.agg #[.int .i64 fA2.base, .slice (some ⟨gJ, 0, none⟩) fA2.jobs.length cJ, .slice (some ⟨gD, 0, none⟩) fA2.dead.length cD, .slice wa fA2.way.length wc], .slice ea 2 2, .int .i64 0]) ∧ Hid (FR w' 0 gJ cJ gD cD (.slice wa fA2.way.length wc) fA2 ∧ Below w.heap.size w w')) := fun W v sv hb h1 h2 => by
    refine (play_alive v sv W (hW.below hb (Nat.le_refl _)) h1 h2).mono ?_
    rintro e w' ⟨v', ea, rfl, hv, hb2⟩
    obtain ⟨gJ, cJ, gD, cD, wa, wc, rfl, hr⟩ := fv_shape hv
    exact ⟨gJ, cJ, gD, cD, wa, wc, ea, rfl, hr, bnext hb hb2⟩
  have kc0 : (convert 36 36 (.slice (some ⟨w.heap.size, 0, none⟩) 3 3)).run Tryz.prog (w.alloc (.cells #[.int .u8 110, .int .u8 111, .int .u8 112] 5)) = .ok (.slice (some ⟨w.heap.size, 0, none⟩) 3 3) (w.alloc (.cells #[.int .u8 110, .int .u8 111, .int .u8 112] 5 (3, 4))) := 
    Lib.run_convert_bytes_const (P := Tryz.prog) w 36 5 #[.int .u8 110, .int .u8 111, .int .u8 112] 3 3 Tryz.underlying36 Tryz.underlying5
  go_enter Tryz.func4, Tryz.ntmps4
  go_wp2_with fail
  have h3 := three_o w (.cells #[.int .u8 110, .int .u8 111, .int .u8 112] 5 (3, 4)) (.cells #[.slice (some ⟨w.heap.size, 0, none⟩) 3 3] 36) (.cells #[.int .i64 1, .int .i64 0, .int .i64 3, .int .i64 0] 33)
  have hl := laid_alive h3
  refine (HP.out _ _ _ h3.2.2.2 hl.1 hl.2).mono ?_
  rintro e w1 ⟨gJ, cJ, gD, cD, wa, wc, ea, rfl, HR⟩
  have HFV : Hid (∀ W, Below w1.heap.size w1 W → FV W (.agg #[.int .i64 fA2.base, .slice (some ⟨gJ, 0, none⟩) fA2.jobs.length cJ, .slice (some ⟨gD, 0, none⟩) fA2.dead.length cD, .slice wa fA2.way.length wc]) fA2) := fun W hb => ⟨gJ, cJ, gD, cD, _, rfl, HR.out.1.go hb (Nat.le_refl _)⟩
  have HLA : Hid (∀ W, Below w1.heap.size w1 W → WL W ∧ Answers (fun s => s = srcNop) ansNop fA2.dead W) := fun W hb => ⟨hW.below (bnext HR.out.2 hb) (Nat.le_refl _), answers_nop _ W (all_below hA (bnext HR.out.2 hb))⟩
  have HSE : Hid (∀ W, Below w1.heap.size w1 W → Calls Tryz.prog 7 #[.agg #[.int .i64 fA2.base, .slice (some ⟨gJ, 0, none⟩) fA2.jobs.length cJ, .slice (some ⟨gD, 0, none⟩) fA2.dead.length cD, .slice wa fA2.way.length wc]] W fun e w' => ∃ g1 k1 g2 k2 wa2 wc2, e = .returned (.tuple #[.agg #[.int .i64 gA.base, .slice (some ⟨g1, 0, none⟩) 1 k1, .slice (some ⟨g2, 0, none⟩) gA.dead.length k2, .slice wa2 gA.way.length wc2], .int .i64 4]) ∧ Hid (FR w' 0 g1 k1 g2 k2 (.slice wa2 gA.way.length wc2) gA ∧ Below W.heap.size W w')) := fun W hb => by
    refine (settle_any _ 1 ansNop ansNop_kind _ fA2 W (HFV.out W hb) fine2 (by omega) (HLA.out W hb).1 (HLA.out W hb).2).mono ?_
    rintro e w' ⟨v', rfl, hv, hb2⟩
    obtain ⟨a, b, c, d, e1, e2, rfl, hr⟩ := fv_shape hv
    refine ⟨a, b, c, d, e1, e2, ?_, hr, hb2⟩
    rw [a_n, show (settleF ansNop 60 fA2).1 = gA from rfl]
    unfold fV
    rw [a_gj]
    rfl
  have HRO : Hid (∀ W, Below w1.heap.size w1 W → Calls Tryz.prog 9 #[.agg #[.int .i64 fA2.base, .slice (some ⟨gJ, 0, none⟩) fA2.jobs.length cJ, .slice (some ⟨gD, 0, none⟩) fA2.dead.length cD, .slice wa fA2.way.length wc]] W fun e w' => ∃ g1 k1 g2 k2 wa2 wc2, e = .returned (.agg #[.int .i64 rA.base, .slice (some ⟨g1, 0, none⟩) 1 k1, .slice (some ⟨g2, 0, none⟩) rA.dead.length k2, .slice wa2 0 wc2]) ∧ Hid (Below W.heap.size W w')) := fun W hb => by
    refine (round_any _ 1 ansNop ansNop_kind _ fA2 W (HFV.out W hb) fine2 (by omega) (HLA.out W hb).1 (HLA.out W hb).2).mono ?_
    rintro e w' ⟨v', rfl, hv, hb2⟩
    obtain ⟨a, b, c, d, e1, e2, rfl, hr⟩ := fv_shape hv
    refine ⟨a, b, c, d, e1, e2, ?_, hb2⟩
    rw [show roundF ansNop fA2 = rA from rfl]
    unfold fV
    rw [a_rj, a_rw]
  have HDF : Hid (∀ W, Below w1.heap.size w1 W → Calls Tryz.prog 10 #[.agg #[.int .i64 fA2.base, .slice (some ⟨gJ, 0, none⟩) fA2.jobs.length cJ, .slice (some ⟨gD, 0, none⟩) fA2.dead.length cD, .slice wa fA2.way.length wc]] W fun e w' => e = .returned (.bool false) ∧ Below W.heap.size W w') := fun W hb => by
    have := done_any _ fA2 W (HFV.out W hb) (by rw [a_fj]; decide)
    rw [a_fd] at this
    exact this
  have HB1 := Lib.hid HR.out.2
  clear h3 hl HP kc0 HFV HLA HR hA hW
  go_wp2_with fail
  refine (HSE.out _ (oalloc _ _)).mono ?_
  rintro e w2 ⟨g1, k1, g2, k2, wa2, wc2, rfl, HG⟩
  have f1 := (HG.out.2.block _ (fblk_lt (fblk_new w1 #[.int .i64 fA2.base, .slice (some ⟨gJ, 0, none⟩) fA2.jobs.length cJ, .slice (some ⟨gD, 0, none⟩) fA2.dead.length cD, .slice wa fA2.way.length wc] 27))).trans (fblk_new w1 _ _)
  have HB2 := Lib.hid (bnext (oalloc w1 _) HG.out.2)
  have HX1 := Lib.hid f1
  have c0 := fblk_cell (i := 0) (v := .int .i64 fA2.base) f1 rfl
  have c1 := fblk_cell (i := 1) (v := .slice (some ⟨gJ, 0, none⟩) fA2.jobs.length cJ) f1 rfl
  have c2 := fblk_cell (i := 2) (v := .slice (some ⟨gD, 0, none⟩) fA2.dead.length cD) f1 rfl
  have c3 := fblk_cell (i := 3) (v := .slice wa fA2.way.length wc) f1 rfl
  have cz := fblk_lt f1
  have HDG : Hid (∀ W, Below w2.heap.size w2 W → Calls Tryz.prog 10 #[.agg #[.int .i64 gA.base, .slice (some ⟨g1, 0, none⟩) 1 k1, .slice (some ⟨g2, 0, none⟩) gA.dead.length k2, .slice wa2 gA.way.length wc2]] W fun e w' => e = .returned (.bool true) ∧ Below W.heap.size W w') := fun W hb => by
    have := done_any (.agg #[.int .i64 gA.base, .slice (some ⟨g1, 0, none⟩) 1 k1, .slice (some ⟨g2, 0, none⟩) gA.dead.length k2, .slice wa2 gA.way.length wc2]) gA W ⟨g1, k1, g2, k2, _, by unfold fV; rw [a_gj], HG.out.1.go hb (Nat.le_refl _)⟩ (by rw [a_gj]; decide)
    rw [a_gd] at this
    exact this
  clear HG HSE f1
  go_wp2_with fail
  refine (HRO.out _ (bnext HB2.out (oalloc _ _))).mono ?_
  rintro e w3 ⟨g3, k3, g4, k4, wa3, wc3, rfl, HB3⟩
  have f2 := (HB3.out.block _ (fblk_lt (fblk_new w2 #[.int .i64 gA.base, .slice (some ⟨g1, 0, none⟩) 1 k1, .slice (some ⟨g2, 0, none⟩) gA.dead.length k2, .slice wa2 gA.way.length wc2] 27))).trans (fblk_new w2 _ _)
  have HB23 := Lib.hid (bnext (oalloc w2 _) HB3.out)
  have f1 := (HB23.out.block _ (fblk_lt HX1.out)).trans HX1.out
  have d0 := fblk_cell (i := 0) (v := .int .i64 fA2.base) f1 rfl
  have d1 := fblk_cell (i := 1) (v := .slice (some ⟨gJ, 0, none⟩) fA2.jobs.length cJ) f1 rfl
  have d2 := fblk_cell (i := 2) (v := .slice (some ⟨gD, 0, none⟩) fA2.dead.length cD) f1 rfl
  have d3 := fblk_cell (i := 3) (v := .slice wa fA2.way.length wc) f1 rfl
  have dz := fblk_lt f1
  have e0 := fblk_cell (i := 0) (v := .int .i64 gA.base) f2 rfl
  have e1 := fblk_cell (i := 1) (v := .slice (some ⟨g1, 0, none⟩) 1 k1) f2 rfl
  have e2 := fblk_cell (i := 2) (v := .slice (some ⟨g2, 0, none⟩) gA.dead.length k2) f2 rfl
  have e3 := fblk_cell (i := 3) (v := .slice wa2 gA.way.length wc2) f2 rfl
  have ez := fblk_lt f2
  have HX1 := Lib.hid f1
  have HX2 := Lib.hid f2
  clear f1 f2 HRO HB3 c0 c1 c2 c3 cz
  go_wp2_with fail
  refine (HDG.out _ (bnext HB23.out (oalloc _ _))).mono ?_
  rintro e w4 ⟨rfl, hb4⟩
  have f3 := (hb4.block _ (fblk_lt (fblk_new w3 #[.int .i64 rA.base, .slice (some ⟨g3, 0, none⟩) 1 k3, .slice (some ⟨g4, 0, none⟩) rA.dead.length k4, .slice wa3 0 wc3] 27))).trans (fblk_new w3 _ _)
  have HB34 := Lib.hid (bnext (oalloc w3 _) hb4)
  have f1 := (HB34.out.block _ (fblk_lt HX1.out)).trans HX1.out
  have f2 := (HB34.out.block _ (fblk_lt HX2.out)).trans HX2.out
  clear d0 d1 d2 d3 dz e0 e1 e2 e3 ez HX1 HX2 hb4 HDG
  have d0 := fblk_cell (i := 0) (v := .int .i64 fA2.base) f1 rfl
  have d1 := fblk_cell (i := 1) (v := .slice (some ⟨gJ, 0, none⟩) fA2.jobs.length cJ) f1 rfl
  have d2 := fblk_cell (i := 2) (v := .slice (some ⟨gD, 0, none⟩) fA2.dead.length cD) f1 rfl
  have d3 := fblk_cell (i := 3) (v := .slice wa fA2.way.length wc) f1 rfl
  have dz := fblk_lt f1
  have HX2 := Lib.hid f2
  have HX3 := Lib.hid f3
  clear f1 f2 f3
  go_wp2_with fail
  refine (HDF.out _ ((HB2.out.trans (HB23.out.mono HB2.out.size)).trans (HB34.out.mono (Nat.le_trans HB2.out.size HB23.out.size)))).mono ?_
  rintro e w5 ⟨rfl, hb5⟩
  have f2 := (hb5.block _ (fblk_lt HX2.out)).trans HX2.out
  have f3 := (hb5.block _ (fblk_lt HX3.out)).trans HX3.out
  have e1 := fblk_cell (i := 1) (v := .slice (some ⟨g1, 0, none⟩) 1 k1) f2 rfl
  have r1 := fblk_cell (i := 1) (v := .slice (some ⟨g3, 0, none⟩) 1 k3) f3 rfl
  have r3 := fblk_cell (i := 3) (v := .slice wa3 0 wc3) f3 rfl
  have ez := fblk_lt f2
  have rz := fblk_lt f3
  have HB5 : Hid (Below w.heap.size w w5) := bnext (bnext (bnext (bnext HB1.out HB2.out) HB23.out) HB34.out) hb5
  clear f2 f3 hb5 d0 d1 d2 d3 dz HX2 HX3 HDF HB1 HB2 HB23 HB34
  go_wp2_with fail
  go_ret
  exact ⟨rfl, HB5.out⟩
end Go.Proofs.YtbpoiajpcahdhaaGreatDoor.Wi

namespace Go.Proofs.YtbpoiajpcahdhaaGreatDoor.Wi
open Go.RowKit

def dK (f : Fm) : Nat → Fm
  | 0 => f
  | k + 1 => dieF (dK f k) k
theorem dK_len (f : Fm) : ∀ k, (dK f k).jobs = f.jobs ∧ (dK f k).dead.length = f.dead.length ∧ (dK f k).way = f.way
  | 0 => ⟨rfl, rfl, rfl⟩
  | k + 1 => by
    have h := dK_len f k
    exact ⟨h.1, by show ((dK f k).dead.set k _).length = _; rw [List.length_set]; exact h.2.1, h.2.2⟩
theorem Fine.die {S : List UInt8 → Prop} {T : Int} {f : Fm} (h : Fine S T f) (n : Nat) : Fine S T (dieF f n) := ⟨h.j0, h.j1, by show 1 ≤ (f.dead.set n _).length; rw [List.length_set]; exact h.d0, by show (f.dead.set n _).length ≤ 3; rw [List.length_set]; exact h.d1, h.wl, h.job, h.way⟩
theorem dK_fine {S : List UInt8 → Prop} {T : Int} {f : Fm} (h : Fine S T f) : ∀ k, Fine S T (dK f k)
  | 0 => h
  | k + 1 => (dK_fine h k).die k
theorem dK_dead {f : Fm} {n : Nat} (h : f.dead = List.replicate n false) : ∀ k i, i < n → (dK f k).dead[i]? = some (decide (i < k))
  | 0, i, hi => by
    show f.dead[i]? = _
    rw [h]
    simp [hi]
  | k + 1, i, hi => by
    have ih := dK_dead h k
    show ((dK f k).dead.set k (!(dK f k).dead.getD k false))[i]? = _
    have hl : (dK f k).dead.length = n := by rw [(dK_len f k).2.1, h]; simp
    rw [List.getElem?_set]
    by_cases e : k = i
    · subst e
      rw [if_pos rfl, if_pos (by omega), List.getD_eq_getElem?_getD, ih k hi]
      simp
    · rw [if_neg e, ih i hi]
      have : (i < k) = (i < k + 1) := propext ⟨fun _ => by omega, fun _ => by omega⟩
      simp only [this]
theorem new_dead {l : List (List UInt8)} {base : Int} {n : Nat} : DeadF (dK (newF l base n) n) := by
  refine ⟨fun w => ?_, fun j hj => ?_, ?_⟩
  · unfold live
    rw [List.getD_eq_getElem?_getD]
    by_cases h : w.toNat < n
    · rw [dK_dead rfl n _ h]
      simp [h]
    · rw [List.getElem?_eq_none (by rw [(dK_len _ _).2.1]; simp [newF]; omega)]
      rfl
  · rw [(dK_len _ _).1] at hj
    obtain ⟨s, _, rfl⟩ := List.mem_map.1 hj
    rfl
  · intro b hb
    rw [(dK_len _ _).2.2] at hb
    exact absurd hb List.not_mem_nil
/-- A farm in a local box. -/
structure PF (w W : World) (gF : Nat) (f : Fm) : Prop where
  bel : Below w.heap.size w W
  lF : w.heap.size ≤ gF
  box : ∃ gJ cJ gD cD wa wc, W.heap[gF]? = some (.cells (fV f gJ cJ gD cD (.slice wa f.way.length wc)) 27 (0, 0)) ∧ FR W 0 gJ cJ gD cD (.slice wa f.way.length wc) f
theorem PF.next {w W W2 : World} {gF : Nat} {f : Fm} (h : PF w W gF f) (hb : Below W.heap.size W W2) : PF w W2 gF f := by
  obtain ⟨a, b, c, d, e1, e2, h1, h2⟩ := h.box
  exact ⟨bnext h.bel hb, h.lF, ⟨a, b, c, d, e1, e2, (hb.block _ (fblk_lt h1)).trans h1, h2.go hb (Nat.le_refl _)⟩⟩
theorem PF.put {w W W2 : World} {gF : Nat} {f g : Fm} (h : PF w W gF f) (hb : Below W.heap.size W W2) {gJ cJ gD cD wc : Nat} {wa : Option Addr} (hr : FR W2 0 gJ cJ gD cD (.slice wa g.way.length wc) g) :
    PF w ((((W2.setCell ⟨gF, 0, none⟩ (.int .i64 g.base)).setCell ⟨gF, 1, none⟩ (.slice (some ⟨gJ, 0, none⟩) g.jobs.length cJ)).setCell ⟨gF, 2, none⟩ (.slice (some ⟨gD, 0, none⟩) g.dead.length cD)).setCell ⟨gF, 3, none⟩ (.slice wa g.way.length wc)) gF g := by
  have h := h.next hb
  have lF := h.lF
  obtain ⟨a, b, c, d, e1, e2, h1, h2⟩ := h.box
  have s0 := fblk_set (i := 0) (v := .int .i64 g.base) h1
  have s1 := fblk_set (i := 1) (v := .slice (some ⟨gJ, 0, none⟩) g.jobs.length cJ) s0
  have s2 := fblk_set (i := 2) (v := .slice (some ⟨gD, 0, none⟩) g.dead.length cD) s1
  have s3 := fblk_set (i := 3) (v := .slice wa g.way.length wc) s2
  exact ⟨(((h.bel.setCell (p := ⟨gF, 0, none⟩) lF _).setCell (p := ⟨gF, 1, none⟩) lF _).setCell (p := ⟨gF, 2, none⟩) lF _).setCell (p := ⟨gF, 3, none⟩) lF _, lF, gJ, cJ, gD, cD, wa, wc, s3, (((hr.setFarm h1 0 _).setFarm s0 1 _).setFarm s1 2 _).setFarm s2 3 _⟩
theorem PF.cells {w W : World} {gF : Nat} {f : Fm} (h : PF w W gF f) : ∃ gJ cJ gD cD wa wc, W.cell? ⟨gF, 0, none⟩ = some (.int .i64 f.base) ∧ W.cell? ⟨gF, 1, none⟩ = some (.slice (some ⟨gJ, 0, none⟩) f.jobs.length cJ) ∧ W.cell? ⟨gF, 2, none⟩ = some (.slice (some ⟨gD, 0, none⟩) f.dead.length cD) ∧ W.cell? ⟨gF, 3, none⟩ = some (.slice wa f.way.length wc) ∧ (∀ i, W.frozen? ⟨gF, i, none⟩ = false) ∧ gF < W.heap.size ∧ FR W 0 gJ cJ gD cD (.slice wa f.way.length wc) f := by
  obtain ⟨a, b, c, d, e1, e2, h1, h2⟩ := h.box
  exact ⟨a, b, c, d, e1, e2, fblk_cell h1 rfl, fblk_cell h1 rfl, fblk_cell h1 rfl, fblk_cell h1 rfl, fun i => fblk_froz h1, fblk_lt h1, h2⟩
/-- What a worker answers where none is asked. -/
def uD (m : Ms) : Ms := { m with kind := 2 }
theorem uD_kind (m : Ms) : (uD m).kind ≠ 1 := by show (2 : Int) ≠ 1; decide

set_option maxHeartbeats 4000000 in
set_option maxRecDepth 100000 in
theorem law_bad (l : List (List UInt8)) (v : Value) (base workers : Int) (w : World) (hA : AllLaid w) (hW : WL w) (hv : LS w v l) (hx : wrongN l base workers ≠ 0) :
    Calls Tryz.prog 3 #[v, .int .i64 base, .int .i64 workers] w fun e w' => e = .returned (.bool true) ∧ Below w.heap.size w w' := by
  have HAL := Lib.hid (alive_any w hA hW)
  have HN : Hid (∀ W, Below w.heap.size w W → Calls Tryz.prog 5 #[v, .int .i64 base, .int .i64 workers] W fun e w' => e = .returned (.tuple #[.agg #[.int .i64 0, .slice none 0 0, .slice none 0 0, .slice none 0 0], .int .i64 (wrongN l base workers)]) ∧ Below W.heap.size W w') := fun W hb => new_bad l v base workers W (hv.go hb) hx
  have hx1 : (wrongN l base workers != 0) = true := by simpa using hx
  obtain ⟨ad, cap, rfl, -⟩ := id hv
  clear hv hx hA hW
  generalize wrongN l base workers = x at *
  go_enter Tryz.func3, Tryz.ntmps3
  go_wp2_with fail
  refine HAL.out.mono ?_
  rintro e w1 ⟨rfl, hb1⟩
  have HB1 := Lib.hid hb1
  clear hb1 HAL
  go_wp2_with fail
  refine (HN.out _ HB1.out).mono ?_
  rintro e w2 ⟨rfl, hb2⟩
  have HB2 := Lib.hid (bnext HB1.out hb2)
  clear hb2 HN HB1
  go_wp2_with fail
  go_ret
  exact ⟨rfl, bnext HB2.out (oalloc _ _)⟩

set_option maxHeartbeats 4000000 in
set_option maxRecDepth 100000 in
theorem law_ok (l : List (List UInt8)) (v : Value) (base workers : Int) (w : World) (hA : AllLaid w) (hW : WL w) (hv : LS w v l) (hx : wrongN l base workers = 0) :
    Calls Tryz.prog 3 #[v, .int .i64 base, .int .i64 workers] w fun e w' => e = .returned (.bool true) ∧ Below w.heap.size w w' := by
  have HAL := Lib.hid (alive_any w hA hW)
  have HN : Hid (∀ W, Below w.heap.size w W → Calls Tryz.prog 5 #[v, .int .i64 base, .int .i64 workers] W fun e w' => ∃ v', e = .returned (.tuple #[v', .int .i64 0]) ∧ FV w' v' (newF l base workers.toNat) ∧ Below W.heap.size W w') := fun W hb => new_ok l v base workers W (hv.go hb) hx
  have hwk := (wrong_ok hx).1.2
  have hll := (wrong_ok hx).1.1.2
  have hF0 : Fine (fun _ => True) 0 (newF l base workers.toNat) := new_fine hx (fun _ _ => trivial)
  have HD : Hid (∀ k W fv, k < workers.toNat → Below w.heap.size w W → FV W fv (dK (newF l base workers.toNat) k) → Calls Tryz.prog 6 #[fv, .agg #[.int .i64 5, .int .i64 k]] W fun e w' => ∃ v', e = .returned (.tuple #[v', .int .i64 0]) ∧ FV w' v' (dK (newF l base workers.toNat) (k + 1)) ∧ Below W.heap.size W w') := fun k W fv hk hb hfv =>
    Do_die _ 0 k fv _ W hfv (dK_fine hF0 k) (by rw [(dK_len _ _).2.1]; simpa [newF] using hk)
  have HDE : DeadF (dK (newF l base workers.toNat) workers.toNat) := new_dead
  have HWL := Lib.hid hW
  obtain ⟨ad, cap, rfl, -⟩ := id hv
  clear hv hx hA hW
  obtain ⟨n, hn⟩ : ∃ n : Nat, workers = n := ⟨workers.toNat, by omega⟩
  subst hn
  simp only [Int.toNat_natCast] at *
  go_enter Tryz.func3, Tryz.ntmps3
  go_wp2_with fail
  refine HAL.out.mono ?_
  rintro e w1 ⟨rfl, hb1⟩
  have HB1 := Lib.hid hb1
  clear hb1 HAL
  go_wp2_with fail
  refine (HN.out _ HB1.out).mono ?_
  rintro e w2 ⟨v2, rfl, hv2, hb2⟩
  obtain ⟨gJ, cJ, gD, cD, wa, wc, rfl, hr⟩ := fv_shape hv2
  have HB2 := Lib.hid (bnext HB1.out hb2)
  have HP : Hid (PF w (w2.alloc (.cells (fV (newF l base n) gJ cJ gD cD (.slice wa (newF l base n).way.length wc)) 27)) w2.heap.size (newF l base n)) := ⟨bnext HB2.out (oalloc _ _), HB2.out.size, ⟨gJ, cJ, gD, cD, wa, wc, fblk_new _ _ _, hr.go (oalloc _ _) (Nat.le_refl _)⟩⟩
  clear hb2 HN HB1 hv2 hr
  unfold fV at *
  go_wp2_with fail
  go_loopw [26] (fun i W => ∃ k : Nat, k ≤ n ∧ i = .int .i64 k ∧ Hid (PF w W w2.heap.size (dK (newF l base n) k))) (fun i _ => n - (intOf i).toNat)
  case atStart => exact ⟨0, Nat.zero_le _, rfl, HP⟩
  case round =>
    obtain ⟨k, hk, rfl, HK⟩ := hrel
    clear HP
    by_cases hlt : k < n
    · have hk1 : (k : Int) < n := by omega
      obtain ⟨g1, k1, g2, k2, wa2, wc2, c0, c1, c2, c3, cf, cz, hr2⟩ := HK.out.cells
      have HCL : Hid (∀ W, Below wr.heap.size wr W → Calls Tryz.prog 6 #[.agg #[.int .i64 (dK (newF l base n) k).base, .slice (some ⟨g1, 0, none⟩) (dK (newF l base n) k).jobs.length k1, .slice (some ⟨g2, 0, none⟩) (dK (newF l base n) k).dead.length k2, .slice wa2 (dK (newF l base n) k).way.length wc2], .agg #[.int .i64 5, .int .i64 k]] W fun e w' => ∃ g3 k3 g4 k4 wa3 wc3, e = .returned (.tuple #[.agg #[.int .i64 (dK (newF l base n) (k + 1)).base, .slice (some ⟨g3, 0, none⟩) (dK (newF l base n) (k + 1)).jobs.length k3, .slice (some ⟨g4, 0, none⟩) (dK (newF l base n) (k + 1)).dead.length k4, .slice wa3 (dK (newF l base n) (k + 1)).way.length wc3], .int .i64 0]) ∧ (∃ x0 x1 x2 x3, w'.cell? ⟨w2.heap.size, 0, none⟩ = some x0 ∧ w'.cell? ⟨w2.heap.size, 1, none⟩ = some x1 ∧ w'.cell? ⟨w2.heap.size, 2, none⟩ = some x2 ∧ w'.cell? ⟨w2.heap.size, 3, none⟩ = some x3) ∧ (∀ i, w'.frozen? ⟨w2.heap.size, i, none⟩ = false) ∧ w2.heap.size < w'.heap.size ∧
          Hid (PF w ((((w'.setCell ⟨w2.heap.size, 0, none⟩ (.int .i64 (dK (newF l base n) (k + 1)).base)).setCell ⟨w2.heap.size, 1, none⟩ (.slice (some ⟨g3, 0, none⟩) (dK (newF l base n) (k + 1)).jobs.length k3)).setCell ⟨w2.heap.size, 2, none⟩ (.slice (some ⟨g4, 0, none⟩) (dK (newF l base n) (k + 1)).dead.length k4)).setCell ⟨w2.heap.size, 3, none⟩ (.slice wa3 (dK (newF l base n) (k + 1)).way.length wc3)) w2.heap.size (dK (newF l base n) (k + 1)))) := fun W hb => by
        refine (HD.out k W _ hlt (bnext HK.out.bel hb) ⟨g1, k1, g2, k2, _, rfl, hr2.go hb (Nat.le_refl _)⟩).mono ?_
        rintro e w' ⟨v', rfl, hv', hb'⟩
        obtain ⟨g3, k3, g4, k4, wa3, wc3, rfl, hr3⟩ := fv_shape hv'
        have hp := HK.out.next (bnext hb hb')
        obtain ⟨_, _, _, _, _, _, y0, y1, y2, y3, yf, yz, _⟩ := hp.cells
        exact ⟨g3, k3, g4, k4, wa3, wc3, rfl, ⟨_, _, _, _, y0, y1, y2, y3⟩, yf, yz, HK.out.put (bnext hb hb') hr3⟩
      have HBW : Hid (Below wr.heap.size wr wr) := Below.refl _ _
      clear hr2 HK HD HDE HWL hF0 HB2
      go_wp2_with fail
      refine (HCL.out _ HBW.out).mono ?_
      rintro e w3 ⟨g3, k3, g4, k4, wa3, wc3, rfl, ⟨x0, x1, x2, x3, y0, y1, y2, y3⟩, yf, yz, HPF⟩
      clear HCL HBW c0 c1 c2 c3 cf cz
      go_wp2_with fail
      exact ⟨⟨k + 1, by omega, by go_num, HPF⟩, by simp [intOf]; omega⟩
    · have hk1 : ¬ (k : Int) < n := by omega
      have e : k = n := by omega
      subst e
      obtain ⟨g1, k1, g2, k2, wa2, wc2, c0, c1, c2, c3, cf, cz, hr2⟩ := HK.out.cells
      have hj1 : (dK (newF l base k) k).jobs.length = l.length := by rw [(dK_len _ _).1]; simp [newF]
      have hw1 : (dK (newF l base k) k).way = [] := by rw [(dK_len _ _).2.2]; rfl
      have hl1 := hF0.j0
      have hl2 := hF0.j1
      have hl3 : (newF l base k).jobs.length = l.length := by simp [newF]
      obtain ⟨s1, s2, s3, s4⟩ := settle_dead uD_kind 60 (dK (newF l base k) k) HDE (by omega) hw1
      rw [hj1] at s3
      have HSE : Hid (∀ W, Below wr.heap.size wr W → Calls Tryz.prog 7 #[.agg #[.int .i64 (dK (newF l base k) k).base, .slice (some ⟨g1, 0, none⟩) (dK (newF l base k) k).jobs.length k1, .slice (some ⟨g2, 0, none⟩) (dK (newF l base k) k).dead.length k2, .slice wa2 (dK (newF l base k) k).way.length wc2]] W fun e w' => ∃ g3 k3 g4 k4 wa3 wc3, e = .returned (.tuple #[.agg #[.int .i64 (settleF uD 60 (dK (newF l base k) k)).1.base, .slice (some ⟨g3, 0, none⟩) l.length k3, .slice (some ⟨g4, 0, none⟩) (settleF uD 60 (dK (newF l base k) k)).1.dead.length k4, .slice wa3 0 wc3], .int .i64 60]) ∧ Hid (FR w' 0 g3 k3 g4 k4 (.slice wa3 0 wc3) (settleF uD 60 (dK (newF l base k) k)).1 ∧ Below W.heap.size W w')) := fun W hb => by
        refine (settle_any _ 0 uD uD_kind _ _ W ⟨g1, k1, g2, k2, _, rfl, hr2.go hb (Nat.le_refl _)⟩ (dK_fine hF0 k) (by omega) (HWL.out.below (bnext HK.out.bel hb) (Nat.le_refl _)) (fun m _ _ h => absurd h (by rw [HDE.dead]; decide))).mono ?_
        rintro e w' ⟨v', rfl, hv, hb2⟩
        obtain ⟨a, b, c, d, e1, e2, rfl, hr⟩ := fv_shape hv
        refine ⟨a, b, c, d, e1, e2, ?_, ?_, hb2⟩
        · rw [s1]
          unfold fV
          rw [s3, s4]
          rfl
        · rw [s4] at hr
          exact hr
      generalize (settleF uD 60 (dK (newF l base k) k)).1 = G at *
      have HBR := Lib.hid HK.out.bel
      have HBW : Hid (Below wr.heap.size wr wr) := Below.refl _ _
      clear HD hr2 HK HDE HWL hF0 s1 hl1 hl2 hl3 hj1 hw1
      go_wp2_with fail
      refine (HSE.out _ HBW.out).mono ?_
      rintro e w3 ⟨g3, k3, g4, k4, wa3, wc3, rfl, HG⟩
      have HB4 : Hid (Below w.heap.size w (w3.alloc (.cells #[.int .i64 G.base, .slice (some ⟨g3, 0, none⟩) l.length k3, .slice (some ⟨g4, 0, none⟩) G.dead.length k4, .slice wa3 0 wc3] 27))) := bnext (bnext HBR.out HG.out.2) (oalloc _ _)
      have HF4 : Hid (FR (w3.alloc (.cells #[.int .i64 G.base, .slice (some ⟨g3, 0, none⟩) l.length k3, .slice (some ⟨g4, 0, none⟩) G.dead.length k4, .slice wa3 0 wc3] 27)) 0 g3 k3 g4 k4 (.slice wa3 0 wc3) G ∧ (w3.alloc (.cells #[.int .i64 G.base, .slice (some ⟨g3, 0, none⟩) l.length k3, .slice (some ⟨g4, 0, none⟩) G.dead.length k4, .slice wa3 0 wc3] 27)).heap[w3.heap.size]? = some (.cells #[.int .i64 G.base, .slice (some ⟨g3, 0, none⟩) l.length k3, .slice (some ⟨g4, 0, none⟩) G.dead.length k4, .slice wa3 0 wc3] 27 (0, 0))) := ⟨HG.out.1.go (oalloc _ _) (Nat.le_refl _), fblk_new _ _ _⟩
      clear HSE HG HBR HB2 HBW c0 c1 c2 c3 cf cz
      go_wp2_with fail
      obtain ⟨W4, hW4⟩ : ∃ W4, W4 = w3.alloc (.cells #[.int .i64 G.base, .slice (some ⟨g3, 0, none⟩) l.length k3, .slice (some ⟨g4, 0, none⟩) G.dead.length k4, .slice wa3 0 wc3] 27) := ⟨_, rfl⟩
      rw [← hW4] at HB4 HF4 ⊢
      clear hW4
      have HBZ : Hid (Below W4.heap.size W4 W4) := Below.refl _ _
      go_loopw [45] (fun i W => ∃ m : Nat, m ≤ l.length ∧ i = .int .i64 m ∧ Hid (Below W4.heap.size W4 W)) (fun i _ => l.length - (intOf i).toNat)
      case atStart => exact ⟨0, Nat.zero_le _, rfl, HBZ⟩
      case round =>
        obtain ⟨m, hm, rfl, HM⟩ := hrel
        have hbx := (HM.out.block _ (fblk_lt HF4.out.2)).trans HF4.out.2
        have HBT : Hid (Below w.heap.size w wr) := bnext HB4.out HM.out
        by_cases hlm : m < l.length
        · have hm1 : (m : Int) < l.length := by omega
          have hmj : m < G.jobs.length := by omega
          obtain ⟨cur, hcu, hrow⟩ := (HF4.out.1.go HM.out (Nat.le_refl _)).jobs
          obtain ⟨sv, ov, hj, hsv, hov⟩ := hrow m hmj
          obtain ⟨sa, sc, rfl⟩ := hsv.slice
          obtain ⟨oa, oc, rfl⟩ := hov.slice
          obtain ⟨e0, e1, e2, e3, e4, e5, e6, e7⟩ := jc_of hcu hj
          have hzq := fblk_lt hcu
          have hdn := s2.job _ (List.getElem_mem hmj)
          rw [hdn] at e4
          have HMA : Hid (∀ o, Below W4.heap.size W4 (wr.alloc o)) := fun o => bnext HM.out (oalloc _ _)
          clear hcu hrow hj hsv hov HM HF4 HB4 HBZ hbx
          generalize G.jobs[m] = j at *
          go_wp2_with fail
          exact ⟨⟨m + 1, by omega, by go_num, HMA.out _⟩, by simp [intOf]; omega⟩
        · have hm1 : ¬ (m : Int) < l.length := by omega
          have c1 := fblk_cell (i := 1) (v := .slice (some ⟨g3, 0, none⟩) l.length k3) hbx rfl
          have c3 := fblk_cell (i := 3) (v := .slice wa3 0 wc3) hbx rfl
          have cz := fblk_lt hbx
          clear HM HF4 HB4 HBZ hbx
          go_wp2_with fail
          go_ret
          exact ⟨rfl, HBT.out⟩
end Go.Proofs.YtbpoiajpcahdhaaGreatDoor.Wi
