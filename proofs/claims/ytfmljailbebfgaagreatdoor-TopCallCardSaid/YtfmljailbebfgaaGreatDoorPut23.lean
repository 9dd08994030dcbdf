import Derived.Test.YtfmljailbebfgaaGreatDoorPut22
import Derived.Test.YtfmljailbebfgaaGreatDoorSnO
set_option maxHeartbeats 8000000
set_option maxRecDepth 100000
namespace Go.Proofs.YtfmljailbebfgaaGreatDoor.Si
open Go.RowKit Isa
theorem qBs {P : Program} {ops : Array Oper} {o : Oper} {a : Act} {w : World} {K : Act -> World -> Prop} {Q : Exit -> Act -> World -> Prop} {E : Prop} (hgd : o.guard = none) (hd : o.dst = none) (ty : TypeId) (p x : Operand) (ho : o.op = .store ty p x) (g : Nat) (c : Array Value) (hp : a.eval p = .pointer (some ⟨g, 0, none⟩)) (hx : a.eval x = .agg c) (t : TypeId) (old : Array Value) (hg : w.heap[g]? = some (.cells old t (0, 0))) (hs : (P.info? ty).map (·.size) = some c.size) (hsz : old.size = c.size) (h1 : c.all (·.oneCell') = true)
  (h : K a (w.setRow g c)) : if Region.wanted o (yielded ops a.tmps) = true then Oper.wp P o a w K Q else E := by
 have hw : Region.wanted o (yielded ops a.tmps) = true := by simp [Region.wanted, hgd]
 rw [if_pos hw]
 exact wp_store_row ty p x ho g c hp hx t old hg hs hsz h1 (by rw [hd]; exact h)
theorem pnew_any (base : Int) (l : List UInt8) (ba : Option Addr) (bc : Nat) (sy : List Sy) (s0 : Option Addr) (s2 : Nat) (w : World) (hB : BRd w ba l) (hS : qDC w s0 sy.length (qY sy)) (hl : l.length * 1 <= 140737488355328) (hsl : sy.length * 24 <= 140737488355328) :
  Calls Tryz.prog 12 #[.agg #[.int .i64 base, .slice ba l.length bc, .slice s0 sy.length s2]] w fun e w' => ∃ gb gs, e = .returned (.agg (mC (newM base l) (some ⟨gb, 0, none⟩) l.length (.slice (some ⟨gs, 0, none⟩) sy.length sy.length) none 0)) /\ Below w.heap.size w w' /\ w.heap.size <= gb /\ w.heap.size <= gs /\ w'.heap[gb]? = some (.cells (qBA l).toArray 5 (0, 0)) /\ w'.heap[gs]? = some (.cells (qY sy).toArray 83 (0, 0)) := by
 obtain ⟨V, hV⟩ : ∃ V, V = (w.alloc (.cells #[.int .i64 base, .slice ba l.length bc, .slice s0 sy.length s2] 36)).alloc (.cells #[.int .i64 0, .int .i64 0, .int .i64 0, .int .i64 0, .int .i64 0, .int .i64 0, .int .i64 0, .int .i64 0, .int .i64 0, .int .i64 0, .int .i64 0, .int .i64 0, .int .i64 0, .int .i64 0, .int .i64 0, .int .i64 0, .bool false, .int .i64 0, .int .i64 0, .int .i64 0, .slice none 0 0, .slice none 0 0, .slice none 0 0, .int .i64 0] 43) := ⟨_, rfl⟩
 have hV0 : Below w.heap.size w V := by rw [hV]; exact (qD _ _).trans ((qD _ _).mono (by simp))
 have hV1 : V.heap[w.heap.size]? = some (.cells #[.int .i64 base, .slice ba l.length bc, .slice s0 sy.length s2] 36 (0, 0)) := by rw [hV, (qD _ _).block _ (by simp)]; exact qJ _ _ _
 have hV2 : V.heap[w.heap.size + 1]? = some (.cells #[.int .i64 0, .int .i64 0, .int .i64 0, .int .i64 0, .int .i64 0, .int .i64 0, .int .i64 0, .int .i64 0, .int .i64 0, .int .i64 0, .int .i64 0, .int .i64 0, .int .i64 0, .int .i64 0, .int .i64 0, .int .i64 0, .bool false, .int .i64 0, .int .i64 0, .int .i64 0, .slice none 0 0, .slice none 0 0, .slice none 0 0, .int .i64 0] 43 (0, 0)) := by
  rw [hV]
  have := qJ (w.alloc (.cells #[.int .i64 base, .slice ba l.length bc, .slice s0 sy.length s2] 36)) #[.int .i64 0, .int .i64 0, .int .i64 0, .int .i64 0, .int .i64 0, .int .i64 0, .int .i64 0, .int .i64 0, .int .i64 0, .int .i64 0, .int .i64 0, .int .i64 0, .int .i64 0, .int .i64 0, .int .i64 0, .int .i64 0, .bool false, .int .i64 0, .int .i64 0, .int .i64 0, .slice none 0 0, .slice none 0 0, .slice none 0 0, .int .i64 0] 43
  simpa using this
 have HV := Lib.hid hV.symm
 have BX0 : Hid (V.drew.heap[w.heap.size]? = some (.cells #[.int .i64 base, .slice ba l.length bc, .slice s0 sy.length s2] 36 (0, 0))) := hV1
 have BZ0 : Hid (V.drew.heap[w.heap.size + 1]? = some (.cells #[.int .i64 0, .int .i64 0, .int .i64 0, .int .i64 0, .int .i64 0, .int .i64 0, .int .i64 0, .int .i64 0, .int .i64 0, .int .i64 0, .int .i64 0, .int .i64 0, .int .i64 0, .int .i64 0, .int .i64 0, .int .i64 0, .bool false, .int .i64 0, .int .i64 0, .int .i64 0, .slice none 0 0, .slice none 0 0, .slice none 0 0, .int .i64 0] 43 (0, 0))) := hV2
 have BE0 := Lib.hid hV0.drew
 have HIM : Hid (∀ X, Below w.heap.size w X -> Calls Tryz.prog 19 #[.agg #[.int .i64 base, .slice ba l.length bc, .slice s0 sy.length s2]] X fun e w' => ∃ gb gs, e = .returned (.agg #[.int .i64 base, .slice (some ⟨gb, 0, none⟩) l.length l.length, .slice (some ⟨gs, 0, none⟩) sy.length sy.length]) /\ Below X.heap.size X w' /\ X.heap.size <= gb /\ X.heap.size <= gs /\ w'.heap[gb]? = some (.cells (qBA l).toArray 5 (0, 0)) /\ w'.heap[gs]? = some (.cells (qY sy).toArray 83 (0, 0))) := fun X hX => qE6 base l ba bc sy s0 s2 X (hB.next hX) (hS.below hX (Nat.le_refl _)) hl hsl
 clear hV hV0 hV1 hV2 hB hS
 go_enter Tryz.func12, Tryz.ntmps12
 go_upto_region 1 with fail
 rw [HV.out]
 clear HV
 refine wp_region_noPanic ?_
 refine wp_region_held_drew (S := fun _ => True) (by kernel_rfl) trivial (fun hHeld => ?_)
 generalize V.drew = V0 at *
 refine tk 0 3 hHeld ?_
 simp only [sA, sB, sC]
 refine wpAnyH_ready (rs := [1, 2]) (by kernel_rfl) (by simp) ?_
 refine AllReadyH.cons rfl (fun K hK => ?_) (AllReadyH.cons rfl (fun K hK => ?_) AllReadyH.nil)
 ·have x := qA (i := 0) BX0.out rfl
  go_simp
  refine hK.out _ _ trivial (fun hHeld => ?_)
  clear hK K x
  refine wr1 2 fun K hK => ?_
  have x0 := qA (i := 0) BX0.out rfl
  have x1 := qA (i := 1) BX0.out rfl
  have x2 := qA (i := 2) BX0.out rfl
  go_simp
  refine hK.out _ _ trivial (fun hHeld => ?_)
  clear hK K x0 x1 x2
  refine wr1 3 fun K hK => ?_
  go_simp
  refine (HIM.out V0 BE0.out).mono ?_
  rintro e V1 ⟨gb, gs, rfl, hb, hgb, hgs, hrb, hrs⟩
  have BX1 := Lib.hid ((hb.block _ (Array.getElem?_eq_some_iff.1 BX0.out).1).trans BX0.out)
  have BZ1 := Lib.hid ((hb.block _ (Array.getElem?_eq_some_iff.1 BZ0.out).1).trans BZ0.out)
  have RB1 := Lib.hid hrb
  have RS1 := Lib.hid hrs
  have BE1 := Lib.hid (BE0.out.trans (hb.mono BE0.out.size))
  have hz0 := (Array.getElem?_eq_some_iff.1 BZ0.out).1
  refine hK.out _ _ trivial (fun hHeld => ?_)
  clear hK K hb hrb hrs BX0 BZ0 BE0
  refine wr1 4 fun K hK => ?_
  go_simp
  refine hK.out _ _ trivial (fun hHeld => ?_)
  clear hK K
  refine wr1 5 fun K hK => ?_
  refine qBs (by rfl) (by rfl) 43 (.tmp 2) (.tmp 7) (by rfl) (w.heap.size + 1) (mC (newM base l) (some ⟨gb, 0, none⟩) l.length (.slice (some ⟨gs, 0, none⟩) sy.length sy.length) none 0) (by rfl) (by rfl) 43 #[.int .i64 0, .int .i64 0, .int .i64 0, .int .i64 0, .int .i64 0, .int .i64 0, .int .i64 0, .int .i64 0, .int .i64 0, .int .i64 0, .int .i64 0, .int .i64 0, .int .i64 0, .int .i64 0, .int .i64 0, .int .i64 0, .bool false, .int .i64 0, .int .i64 0, .int .i64 0, .slice none 0 0, .slice none 0 0, .slice none 0 0, .int .i64 0] BZ1.out (qBr _ _ _ _ _ _) rfl (mAll _ _ _ _ _ _ _ _) ?_
  refine hK.out _ _ trivial (fun hHeld => ?_)
  clear hK K
  refine wpAnyH_done (by kernel_rfl) ?_ _
  refine NoPanic.normal ?_
  go_wp2
  refine bodyPost_ret (v := .agg (mC (newM base l) (some ⟨gb, 0, none⟩) l.length (.slice (some ⟨gs, 0, none⟩) sy.length sy.length) none 0)) (res_1 Tryz.results12 rfl (setRow_heap _ _ _ _ _ _ BZ1.out) (qBr _ _ _ _ _ _)) rfl ⟨gb, gs, rfl, below_setRow BE1.out (by omega) _, by omega, by omega, ?_, ?_⟩
  ·rw [setRow_other _ _ _ _ (by omega)]; exact RB1.out
  ·rw [setRow_other _ _ _ _ (by omega)]; exact RS1.out
 ·have x0 := qA (i := 0) BX0.out rfl
  have x1 := qA (i := 1) BX0.out rfl
  have x2 := qA (i := 2) BX0.out rfl
  go_simp
  refine hK.out _ _ trivial (fun hHeld => ?_)
  clear hK K x0 x1 x2
  refine wpAnyH_ready (rs := [1, 3]) (by kernel_rfl) (by simp) ?_
  refine AllReadyH.cons rfl (fun K hK => ?_) (AllReadyH.cons rfl (fun K hK => ?_) AllReadyH.nil)
  ·have x := qA (i := 0) BX0.out rfl
   go_simp
   refine hK.out _ _ trivial (fun hHeld => ?_)
   clear hK K x
   refine wr1 3 fun K hK => ?_
   go_simp
   refine (HIM.out V0 BE0.out).mono ?_
   rintro e V1 ⟨gb, gs, rfl, hb, hgb, hgs, hrb, hrs⟩
   have BX1 := Lib.hid ((hb.block _ (Array.getElem?_eq_some_iff.1 BX0.out).1).trans BX0.out)
   have BZ1 := Lib.hid ((hb.block _ (Array.getElem?_eq_some_iff.1 BZ0.out).1).trans BZ0.out)
   have RB1 := Lib.hid hrb
   have RS1 := Lib.hid hrs
   have BE1 := Lib.hid (BE0.out.trans (hb.mono BE0.out.size))
   have hz0 := (Array.getElem?_eq_some_iff.1 BZ0.out).1
   refine hK.out _ _ trivial (fun hHeld => ?_)
   clear hK K hb hrb hrs BX0 BZ0 BE0
   refine wr1 4 fun K hK => ?_
   go_simp
   refine hK.out _ _ trivial (fun hHeld => ?_)
   clear hK K
   refine wr1 5 fun K hK => ?_
   refine qBs (by rfl) (by rfl) 43 (.tmp 2) (.tmp 7) (by rfl) (w.heap.size + 1) (mC (newM base l) (some ⟨gb, 0, none⟩) l.length (.slice (some ⟨gs, 0, none⟩) sy.length sy.length) none 0) (by rfl) (by rfl) 43 #[.int .i64 0, .int .i64 0, .int .i64 0, .int .i64 0, .int .i64 0, .int .i64 0, .int .i64 0, .int .i64 0, .int .i64 0, .int .i64 0, .int .i64 0, .int .i64 0, .int .i64 0, .int .i64 0, .int .i64 0, .int .i64 0, .bool false, .int .i64 0, .int .i64 0, .int .i64 0, .slice none 0 0, .slice none 0 0, .slice none 0 0, .int .i64 0] BZ1.out (qBr _ _ _ _ _ _) rfl (mAll _ _ _ _ _ _ _ _) ?_
   refine hK.out _ _ trivial (fun hHeld => ?_)
   clear hK K
   refine wpAnyH_done (by kernel_rfl) ?_ _
   refine NoPanic.normal ?_
   go_wp2
   refine bodyPost_ret (v := .agg (mC (newM base l) (some ⟨gb, 0, none⟩) l.length (.slice (some ⟨gs, 0, none⟩) sy.length sy.length) none 0)) (res_1 Tryz.results12 rfl (setRow_heap _ _ _ _ _ _ BZ1.out) (qBr _ _ _ _ _ _)) rfl ⟨gb, gs, rfl, below_setRow BE1.out (by omega) _, by omega, by omega, ?_, ?_⟩
   ·rw [setRow_other _ _ _ _ (by omega)]; exact RB1.out
   ·rw [setRow_other _ _ _ _ (by omega)]; exact RS1.out
  ·go_simp
   refine (HIM.out V0 BE0.out).mono ?_
   rintro e V1 ⟨gb, gs, rfl, hb, hgb, hgs, hrb, hrs⟩
   have BX1 := Lib.hid ((hb.block _ (Array.getElem?_eq_some_iff.1 BX0.out).1).trans BX0.out)
   have BZ1 := Lib.hid ((hb.block _ (Array.getElem?_eq_some_iff.1 BZ0.out).1).trans BZ0.out)
   have RB1 := Lib.hid hrb
   have RS1 := Lib.hid hrs
   have BE1 := Lib.hid (BE0.out.trans (hb.mono BE0.out.size))
   have hz0 := (Array.getElem?_eq_some_iff.1 BZ0.out).1
   refine hK.out _ _ trivial (fun hHeld => ?_)
   clear hK K hb hrb hrs BX0 BZ0 BE0
   refine wr1 1 fun K hK => ?_
   have x := qA (i := 0) BX1.out rfl
   go_simp
   refine hK.out _ _ trivial (fun hHeld => ?_)
   clear hK K x
   refine wr1 4 fun K hK => ?_
   go_simp
   refine hK.out _ _ trivial (fun hHeld => ?_)
   clear hK K
   refine wr1 5 fun K hK => ?_
   refine qBs (by rfl) (by rfl) 43 (.tmp 2) (.tmp 7) (by rfl) (w.heap.size + 1) (mC (newM base l) (some ⟨gb, 0, none⟩) l.length (.slice (some ⟨gs, 0, none⟩) sy.length sy.length) none 0) (by rfl) (by rfl) 43 #[.int .i64 0, .int .i64 0, .int .i64 0, .int .i64 0, .int .i64 0, .int .i64 0, .int .i64 0, .int .i64 0, .int .i64 0, .int .i64 0, .int .i64 0, .int .i64 0, .int .i64 0, .int .i64 0, .int .i64 0, .int .i64 0, .bool false, .int .i64 0, .int .i64 0, .int .i64 0, .slice none 0 0, .slice none 0 0, .slice none 0 0, .int .i64 0] BZ1.out (qBr _ _ _ _ _ _) rfl (mAll _ _ _ _ _ _ _ _) ?_
   refine hK.out _ _ trivial (fun hHeld => ?_)
   clear hK K
   refine wpAnyH_done (by kernel_rfl) ?_ _
   refine NoPanic.normal ?_
   go_wp2
   refine bodyPost_ret (v := .agg (mC (newM base l) (some ⟨gb, 0, none⟩) l.length (.slice (some ⟨gs, 0, none⟩) sy.length sy.length) none 0)) (res_1 Tryz.results12 rfl (setRow_heap _ _ _ _ _ _ BZ1.out) (qBr _ _ _ _ _ _)) rfl ⟨gb, gs, rfl, below_setRow BE1.out (by omega) _, by omega, by omega, ?_, ?_⟩
   ·rw [setRow_other _ _ _ _ (by omega)]; exact RB1.out
   ·rw [setRow_other _ _ _ _ (by omega)]; exact RS1.out
def MV (w : World) (v : Value) (m : Ma) (sy : List Sy) : Prop := ∃ ba bc s0 s2 ta tc, v = .agg (mC m ba bc (.slice s0 sy.length s2) ta tc) /\ BRd w ba m.by' /\ TRd w ta m.told /\ qDC w s0 sy.length (qY sy)
def MVb (B : Nat) (w : World) (v : Value) (m : Ma) (sy : List Sy) : Prop := ∃ ba bc s0 s2 ta tc, v = .agg (mC m ba bc (.slice s0 sy.length s2) ta tc) /\ BRd w ba m.by' /\ TRd w ta m.told /\ qDC w s0 sy.length (qY sy) /\ (∀ a, ba = some a -> 0 < m.by'.length -> B <= a.block) /\ (∀ a, ta = some a -> 0 < m.told.length -> B <= a.block) /\ (∀ a, s0 = some a -> 0 < sy.length -> B <= a.block)
theorem MVb.mv {B : Nat} {w : World} {v : Value} {m : Ma} {sy : List Sy} (h : MVb B w v m sy) : MV w v m sy := by
 obtain ⟨ba, bc, s0, s2, ta, tc, e, h1, h2, h3, _⟩ := h
 exact ⟨ba, bc, s0, s2, ta, tc, e, h1, h2, h3⟩
theorem qMI {m : Ma} (h : qAE m ≠ 0) : qAm m = false := by
 unfold qAm
 simp only [decide_eq_false_iff_not]
 rintro ⟨h1, h2⟩
 exact h (stepZ h1 h2).1
theorem MR.row29 {K g : Nat} {m : Ma} {gb bc : Nat} {sv : Value} {ta : Option Addr} {tc : Nat} {W : World} (h : MR K g m gb bc sv ta tc W) {r : Nat} {c0 : Array Value} (hr : W.heap[r]? = some (.cells c0 43 (0, 0))) (hne : g ≠ r) (h1r : max 1 4 < r) (c : Array Value) : MR K g m gb bc sv ta tc (W.setRow r c) := by
 have hgb : gb ≠ r := by
  intro e
  have h1 := h.bb
  rw [e, hr] at h1
  injection h1 with h1
  injection h1 with _ h2
  exact absurd h2 (by decide)
 refine ⟨?_, ?_, ?_, ?_, ?_, h.k2, h.g2, h.gb2⟩
 ·rw [setRow_other W r g _ hne]; exact h.b1
 ·rw [setRow_other W r gb _ hgb]; exact h.bb
 ·exact h.tt.kept (qLG W r c) (qEX h.tt hr (by decide))
 ·exact h.la.below (B := max 1 4 + 1) ⟨rfl, rfl, rfl, by simp [World.setRow], fun q hq => setRow_other W r q c (by omega)⟩ (by omega)
 ·simpa [World.setRow] using h.kz
theorem MR.mv {K g : Nat} {m : Ma} {gb bc : Nat} {gs : Nat} {sy : List Sy} {ta : Option Addr} {tc : Nat} {W : World} (h : MR K g m gb bc (.slice (some ⟨gs, 0, none⟩) sy.length sy.length) ta tc W) (hs : W.heap[gs]? = some (.cells (qY sy).toArray 83 (0, 0))) {B : Nat} (h1 : B <= gb) (h2 : B <= gs) (h3 : B <= K) : MVb B W (.agg (mC m (some ⟨gb, 0, none⟩) bc (.slice (some ⟨gs, 0, none⟩) sy.length sy.length) ta tc)) m sy := by
 refine ⟨_, _, _, _, _, _, rfl, h.brd, h.trd, qDz hs (qCs sy), fun a e _ => ?_, fun a e h0 => ?_, fun a e _ => ?_⟩
 ·cases e; exact h1
 ·subst e
  exact Nat.le_trans h3 (h.tt.lt a.block rfl).1
 ·cases e; exact h2
theorem own_mr {w X : World} {m : Ma} {q gb gs gt : Nat} {sy : List Sy} (hL : Laid X) (hz : max 1 4 < w.heap.size) (hgb : w.heap.size <= gb) (hgt : gb < gt) (hq : max 1 4 < q) (h1 : X.heap[q]? = some (.cells (mC m (some ⟨gb, 0, none⟩) m.by'.length (.slice (some ⟨gs, 0, none⟩) sy.length sy.length) (some ⟨gt, 0, none⟩) m.told.length) 43 (0, 0))) (h2 : X.heap[gb]? = some (.cells (qBA m.by').toArray 5 (0, 0))) (h3 : X.heap[gt]? = some (.cells (qAv m.told).toArray 3 (0, 0))) (ht : m.told.length <= maxLen) :
  MR gt q m gb m.by'.length (.slice (some ⟨gs, 0, none⟩) sy.length sy.length) (some ⟨gt, 0, none⟩) m.told.length X := by
 refine ⟨h1, h2, ⟨qE8 _, Or.inr ⟨gt, m.told.length, (qAv m.told).toArray, rfl, Nat.le_refl _, h3, Nat.le_refl _, ht, by simp [qAv], ?_⟩⟩, hL, Nat.le_of_lt (Array.getElem?_eq_some_iff.1 h3).1, by omega, hq, by omega⟩
 rw [Nat.mul_one]
 have : (qAv m.told).length = m.told.length := by simp [qAv]
 rw [<- this]
 simp
theorem qHP {m : Ma} (h : qAE m = 0) : qe m m.pc = 0 := by
 unfold qAE at h
 by_cases he : qe m m.pc = 0
 ·exact he
 ·rw [if_pos he] at h
  exact absurd h he
theorem step_len {m : Ma} : (qx m).by'.length = m.by'.length := by
 unfold qx
 have pp : (preM m).by' = m.by' := by unfold preM; split <;> rfl
 split
 ·rfl
 ·split
  ·exact (qCn { m with st := m.st + 1 } _ _ _ _ _).2.1
  ·split
   ·rfl
   ·show (qX (preM m) _ _ _ _ _).by'.length = _
    rw [(qCn (preM m) _ _ _ _ _).2.1, pp]
inductive Rch (m : Ma) : Ma -> Prop where
 | here : Rch m m
 | step {M : Ma} (h : Rch m M) (h0 : qAE M = 0) (hd : qAm M = false) : Rch m (qx M)
structure qEb (n : Nat) (m : Ma) (k : Nat) (M : Ma) : Prop where
 rn : Runs M k
 ee : runE n m = runE (n - k) M
 mm : runM n m = runM (n - k) M
 ln : M.by'.length = m.by'.length
 re : Rch m M
theorem qEb.step {n : Nat} {m : Ma} {k : Nat} {M : Ma} (h : qEb n m k M) (hk : k < n) (h0 : qAE M = 0) (hd : qAm M = false) : qEb n m (k + 1) (qx M) := by
 have e : n - k = (n - (k + 1)) + 1 := by omega
 refine ⟨(qLh h.rn (qHP h0)).1, ?_, ?_, by rw [step_len, h.ln], .step h.re h0 hd⟩
 ·rw [h.ee, e, runE, if_neg (by simp [h0]), if_neg (by simp [hd])]
 ·rw [h.mm, e, runM, if_neg (by simp [h0]), if_neg (by simp [hd])]
theorem qEb.bad {n : Nat} {m : Ma} {k : Nat} {M : Ma} (h : qEb n m k M) (hk : k < n) (h0 : qAE M ≠ 0) : runE n m = qAE M := by
 have e : n - k = (n - (k + 1)) + 1 := by omega
 rw [h.ee, e, runE, if_pos h0]
theorem qEb.fin {n : Nat} {m : Ma} {k : Nat} {M : Ma} (h : qEb n m k M) (hk : k < n) (h0 : qAE M = 0) (hd : qAm M = true) : runE n m = 0 /\ runM n m = qx M := by
 have e : n - k = (n - (k + 1)) + 1 := by omega
 refine ⟨?_, ?_⟩
 ·rw [h.ee, e, runE, if_neg (by simp [h0]), if_pos hd]
 ·rw [h.mm, e, runM, if_neg (by simp [h0]), if_pos hd]
theorem qEb.out {n : Nat} {m : Ma} {M : Ma} (h : qEb n m n M) : runE n m = 13 := by
 rw [h.ee, Nat.sub_self]
 rfl
structure RS (w : World) (gb gs gt : Nat) (sy : List Sy) (len : Nat) (M : Ma) (W : World) : Prop where
 bel : Below w.heap.size w W
 res : W.heap[w.heap.size + 1]? = some (.cells zC 43 (0, 0))
 mr : ∃ ta tc, MR gt w.heap.size M gb len (.slice (some ⟨gs, 0, none⟩) sy.length sy.length) ta tc W
 sym : W.heap[gs]? = some (.cells (qY sy).toArray 83 (0, 0))
 h1 : w.heap.size + 1 < gt
 h2 : gs < gt
 h3 : w.heap.size + 1 < gb
 h4 : w.heap.size + 1 < gs
theorem RS.keep {w : World} {gb gs gt : Nat} {sy : List Sy} {len : Nat} {M : Ma} {W : World} (h : RS w gb gs gt sy len M W) {W' : World} {M' : Ma} (hk : Kept gt w.heap.size gb W W') (hm : ∃ ta tc, MR gt w.heap.size M' gb len (.slice (some ⟨gs, 0, none⟩) sy.length sy.length) ta tc W') : RS w gb gs gt sy len M' W' := by
 have hgs : gs ≠ gb := by
  intro e
  obtain ⟨ta, tc, hmr⟩ := h.mr
  have h1 := h.sym
  rw [e, hmr.bb] at h1
  injection h1 with h1
  injection h1 with _ h2
  exact absurd h2 (by decide)
 have hh1 := h.h1
 have hh3 := h.h3
 have hh4 := h.h4
 exact ⟨h.bel.trans (hk.below (by omega) (Nat.le_refl _) (by omega)), by rw [hk.block _ (by omega) (by omega) (by omega)]; exact h.res, hm, by rw [hk.block _ h.h2 (by omega) hgs]; exact h.sym, h.h1, h.h2, h.h3, h.h4⟩
theorem res_r {fn : Func} (hr : fn.results = #[.cell 4 43, .tmp 5]) {T : Array Value} {W : World} {g : Nat} {e : Int} {c : Array Value} (h2 : T.getD 4 undef = .pointer (some ⟨g, 0, none⟩)) (h3 : T.getD 5 undef = .int .i64 e) (hg : W.heap[g]? = some (.cells c 43 (0, 0))) (hs : (Tryz.prog.info? 43).map (·.size) = some c.size) :
  (results fn T).run Tryz.prog W = .ok (.tuple #[.agg c, .int .i64 e]) W := by
 have hl := run_loadVar_row (P := Tryz.prog) W g 43 43 c (0, 0) _ hg Tryz.underlying43 rfl hs
 have h2' : T[4]?.getD undef = .pointer (some ⟨g, 0, none⟩) := by simpa using h2
 have h3' : T[5]?.getD undef = .int .i64 e := by simpa using h3
 simp [results, hr, h2', h3', asAddr, hl]
theorem run_out (m : Ma) (sy : List Sy) (v : Value) (most : Int) (w : World) (hv : MV w v m sy) (hm : most < 0 \/ 2000 < most) :
  Calls Tryz.prog 11 #[v, .int .i64 most] w fun e w' => e = .returned (.tuple #[.agg zC, .int .i64 3]) /\ Below w.heap.size w w' := by
 obtain ⟨ba, bc, s0, s2, ta, tc, rfl, hB, hT, hS⟩ := hv
 obtain ⟨V, hV⟩ : ∃ V, V = (w.alloc (.cells (mC m ba bc (.slice s0 sy.length s2) ta tc) 43)).alloc (.cells zC 43) := ⟨_, rfl⟩
 have hV0 : Below w.heap.size w V := by rw [hV]; exact (qD _ _).trans ((qD _ _).mono (by simp))
 have hV2 : V.heap[w.heap.size + 1]? = some (.cells zC 43 (0, 0)) := by
  rw [hV]
  have := qJ (w.alloc (.cells (mC m ba bc (.slice s0 sy.length s2) ta tc) 43)) zC 43
  simpa using this
 have HV := Lib.hid hV.symm
 have HV2 := Lib.hid hV2
 have HB := Lib.hid hV0
 clear hV hV0 hV2 hB hT hS
 rw [zLit] at HV HV2
 rcases hm with hm | hm
 ·go_enter Tryz.func11, Tryz.ntmps11
  go_upto_region 1 with fail
  rw [HV.out]
  clear HV
  go_wp2_with (first | (refine wpList_store_row rfl 43 _ _ rfl (w.heap.size + 1) #[.int .i64 0, .int .i64 0, .int .i64 0, .int .i64 0, .int .i64 0, .int .i64 0, .int .i64 0, .int .i64 0, .int .i64 0, .int .i64 0, .int .i64 0, .int .i64 0, .int .i64 0, .int .i64 0, .int .i64 0, .int .i64 0, .bool false, .int .i64 0, .int .i64 0, .int .i64 0, .slice none 0 0, .slice none 0 0, .slice none 0 0, .int .i64 0] rfl rfl 43 #[.int .i64 0, .int .i64 0, .int .i64 0, .int .i64 0, .int .i64 0, .int .i64 0, .int .i64 0, .int .i64 0, .int .i64 0, .int .i64 0, .int .i64 0, .int .i64 0, .int .i64 0, .int .i64 0, .int .i64 0, .int .i64 0, .bool false, .int .i64 0, .int .i64 0, .int .i64 0, .slice none 0 0, .slice none 0 0, .slice none 0 0, .int .i64 0] HV2.out qGf rfl zAll ?_) | fail)
  exact bodyPost_ret (v := .tuple #[.agg zC, .int .i64 3]) (res_r Tryz.results11 rfl rfl (setRow_heap _ _ _ _ _ _ HV2.out) qGf) rfl ⟨rfl, below_setRow HB.out (by omega) _⟩
 ·have hm0 : ¬ most < 0 := by omega
  go_enter Tryz.func11, Tryz.ntmps11
  go_upto_region 1 with fail
  rw [HV.out]
  clear HV
  go_wp2_with (first | (refine wpList_store_row rfl 43 _ _ rfl (w.heap.size + 1) #[.int .i64 0, .int .i64 0, .int .i64 0, .int .i64 0, .int .i64 0, .int .i64 0, .int .i64 0, .int .i64 0, .int .i64 0, .int .i64 0, .int .i64 0, .int .i64 0, .int .i64 0, .int .i64 0, .int .i64 0, .int .i64 0, .bool false, .int .i64 0, .int .i64 0, .int .i64 0, .slice none 0 0, .slice none 0 0, .slice none 0 0, .int .i64 0] rfl rfl 43 #[.int .i64 0, .int .i64 0, .int .i64 0, .int .i64 0, .int .i64 0, .int .i64 0, .int .i64 0, .int .i64 0, .int .i64 0, .int .i64 0, .int .i64 0, .int .i64 0, .int .i64 0, .int .i64 0, .int .i64 0, .int .i64 0, .bool false, .int .i64 0, .int .i64 0, .int .i64 0, .slice none 0 0, .slice none 0 0, .slice none 0 0, .int .i64 0] HV2.out qGf rfl zAll ?_) | fail)
  exact bodyPost_ret (v := .tuple #[.agg zC, .int .i64 3]) (res_r Tryz.results11 rfl rfl (setRow_heap _ _ _ _ _ _ HV2.out) qGf) rfl ⟨rfl, below_setRow HB.out (by omega) _⟩
def RnPost (w : World) (n : Nat) (m : Ma) (sy : List Sy) (e : Ending) (w' : World) : Prop :=
 ∃ v', e = .returned (.tuple #[v', .int .i64 (runE n m)]) /\ Below w.heap.size w w' /\ ((runE n m ≠ 0 /\ v' = .agg zC) \/ (runE n m = 0 /\ MVb w.heap.size w' v' (runM n m) sy))
theorem run_res (m : Ma) (sy : List Sy) (v : Value) (n : Nat) (w : World) (hv : MV w v m sy) (hL : Laid w) (hR : Runs m 0) (hn : n <= 2000) (hsl : sy.length * 24 <= 140737488355328) (hres : ∀ M, Rch m M -> ResM M) :
  Calls Tryz.prog 11 #[v, .int .i64 (n : Int)] w (RnPost w n m sy) := by
 obtain ⟨ba, bc, s0, s2, ta, tc, rfl, hB, hT, hS⟩ := hv
 have hbl := hR.bl
 have htl := hR.tl
 obtain ⟨V, hV⟩ : ∃ V, V = (w.alloc (.cells (mC m ba bc (.slice s0 sy.length s2) ta tc) 43)).alloc (.cells zC 43) := ⟨_, rfl⟩
 have hV0 : Below w.heap.size w V := by rw [hV]; exact (qD _ _).trans ((qD _ _).mono (by simp))
 have hV1 : V.heap[w.heap.size]? = some (.cells (mC m ba bc (.slice s0 sy.length s2) ta tc) 43 (0, 0)) := by rw [hV, (qD _ _).block _ (by simp)]; exact qJ _ _ _
 have hV2 : V.heap[w.heap.size + 1]? = some (.cells zC 43 (0, 0)) := by
  rw [hV]
  have := qJ (w.alloc (.cells (mC m ba bc (.slice s0 sy.length s2) ta tc) 43)) zC 43
  simpa using this
 have hlt1 := (Array.getElem?_eq_some_iff.1 hV1).1
 have hlt2 := (Array.getElem?_eq_some_iff.1 hV2).1
 have HO : Hid (Calls Tryz.prog 17 #[.agg (mC m ba bc (.slice s0 sy.length s2) ta tc)] V fun e w' => ∃ gb gs gt, e = .returned (.agg (mC m (some ⟨gb, 0, none⟩) m.by'.length (.slice (some ⟨gs, 0, none⟩) sy.length sy.length) (some ⟨gt, 0, none⟩) m.told.length)) /\ w'.heap[w.heap.size]? = some (.cells (mC m ba bc (.slice s0 sy.length s2) ta tc) 43 (0, 0)) /\ RS w gb gs gt sy m.by'.length m (w'.setRow w.heap.size (mC m (some ⟨gb, 0, none⟩) m.by'.length (.slice (some ⟨gs, 0, none⟩) sy.length sy.length) (some ⟨gt, 0, none⟩) m.told.length))) := by
  refine (pown_any m ba bc sy s0 s2 ta tc V (hB.next hV0) (hS.below hV0 (Nat.le_refl _)) (hT.next hV0) (by omega) hsl (by omega)).mono ?_
  rintro e w' ⟨gb, gs, gt, rfl, hb, h1, h2, h3, h4, h5, h6, h7⟩
  have hbw := hV0.trans (hb.mono hV0.size)
  have hz := hV0.size
  have r0 := (hb.block _ hlt1).trans hV1
  have r1 := (hb.block _ hlt2).trans hV2
  refine ⟨gb, gs, gt, rfl, r0, ?_⟩
  have hold : ∀ {b : Nat} {o : Obj}, b ≠ w.heap.size -> w'.heap[b]? = some o -> (w'.setRow w.heap.size (mC m (some ⟨gb, 0, none⟩) m.by'.length (.slice (some ⟨gs, 0, none⟩) sy.length sy.length) (some ⟨gt, 0, none⟩) m.told.length)).heap[b]? = some o := fun {b o} hne hbo => by
   rw [setRow_other _ _ _ _ hne]
   exact hbo
  have hbX : Below w.heap.size w (w'.setRow w.heap.size (mC m (some ⟨gb, 0, none⟩) m.by'.length (.slice (some ⟨gs, 0, none⟩) sy.length sy.length) (some ⟨gt, 0, none⟩) m.told.length)) := below_setRow hbw (Nat.le_refl _) _
  have hMR := own_mr (w := V) (q := w.heap.size) (hL.below hbX hL.sz) (by have := hL.sz; omega) h1 h3 hL.sz (setRow_heap _ _ _ _ _ _ r0) (hold (by omega) h5) (hold (by omega) h7) (by unfold maxLen; omega)
  exact ⟨hbX, hold (by omega) r1, ⟨_, _, hMR⟩, hold (by omega) h6, by omega, h4, by omega, by omega⟩
 have HV := Lib.hid hV.symm
 have HV1 := Lib.hid hV1
 have HRES := Lib.hid hres
 clear hres
 have HR0 : Hid (qEb n m 0 m) := ⟨hR, rfl, rfl, rfl, .here⟩
 have hw1 := hL.sz
 clear hV hV0 hV1 hV2 hB hT hS hL hR hlt1 hlt2
 rw [zLit] at HV
 go_enter Tryz.func11, Tryz.ntmps11
 go_upto_region 1 with fail
 rw [HV.out]
 clear HV
 have hn0 : ¬ (n : Int) < 0 := by omega
 have hn1 : ¬ (2000 : Int) < (n : Int) := by omega
 go_wp2_with (first | (refine wpList_load_row rfl 43 _ rfl w.heap.size rfl 43 (mC m ba bc (.slice s0 sy.length s2) ta tc) (0, 0) _ HV1.out Tryz.underlying43 rfl (qBr _ _ _ _ _ _) ?_) | (go_at_call 17; refine HO.out.mono ?_; rintro e W1 ⟨gb, gs, gt, rfl, hr0, hrs⟩; have HX0 := Lib.hid hr0; have HRS := Lib.hid hrs; clear hr0 hrs) | (refine wpList_store_row rfl 43 _ _ rfl w.heap.size (mC m (some ⟨gb, 0, none⟩) m.by'.length (.slice (some ⟨gs, 0, none⟩) sy.length sy.length) (some ⟨gt, 0, none⟩) m.told.length) rfl rfl 43 (mC m ba bc (.slice s0 sy.length s2) ta tc) HX0.out (qBr _ _ _ _ _ _) rfl (mAll _ _ _ _ _ _ _ _) ?_; generalize World.setRow W1 w.heap.size _ = X at *) | fail)
 go_loopw [18] (fun i wr => ∃ k : Nat, k <= n /\ i = .int .i64 k /\ ∃ M, Hid (qEb n m k M) /\ Hid (RS w gb gs gt sy m.by'.length M wr)) (fun i _ => n - (intOf i).toNat)
 case atStart => exact ⟨0, Nat.zero_le _, rfl, m, HR0, HRS⟩
 case round =>
  obtain ⟨k, hk, rfl, M, HA, HS⟩ := hrel
  clear HRS HR0 HO HX0 HV1
  by_cases hlt : k < n
  ·have hk1 : (k : Int) < n := by omega
   have HST : Hid (Calls Tryz.prog 18 #[.pointer (some ⟨w.heap.size, 0, none⟩)] wr fun e W' => e = .returned (.tuple #[.bool (qAm M), .int .i64 (qAE M)]) /\ Below w.heap.size w W' /\ W'.heap[w.heap.size + 1]? = some (.cells zC 43 (0, 0)) /\ (qAE M = 0 -> RS w gb gs gt sy m.by'.length (qx M) W')) := by
    obtain ⟨ta1, tc1, hmr⟩ := HS.out.mr
    refine (qLn gt w.heap.size M gb m.by'.length (some ⟨gs, 0, none⟩) sy.length sy.length ta1 tc1 k wr hmr HA.out.rn (by omega) (by rw [HA.out.ln]; exact Nat.le_refl _) (HRES.out M HA.out.re)).mono ?_
    rintro e W' ⟨rfl, hkp, hm'⟩
    have h1 := HS.out.h1
    have h3 := HS.out.h3
    refine ⟨?_, HS.out.bel.trans (hkp.below (by omega) (Nat.le_refl _) (by omega)), ?_, fun h0 => HS.out.keep hkp (hm' h0)⟩
    ·by_cases h0 : qAE M = 0
     ·rw [if_pos h0]
     ·rw [if_neg h0, qMI h0]
    ·rw [hkp.block _ (by omega) (by omega) (by omega)]
     exact HS.out.res
   by_cases h0 : qAE M = 0
   ·by_cases hd : qAm M = true
    ·have HF := Lib.hid (HA.out.fin hlt h0 hd)
     rw [h0, hd] at HST
     rw [zLit] at HST
     clear h0 hd HA HS
     generalize qx M = M2 at *
     go_wp2_with (first | (go_at_call 18; refine HST.out.mono ?_; rintro e W2 ⟨rfl, hb2, hr2, hm2⟩; have hs2 := hm2 (by first | rfl | trivial); obtain ⟨ta2, tc2, hm3⟩ := hs2.mr; have HR2 := Lib.hid hr2; have HS2 := Lib.hid hs2; have HM3 := Lib.hid hm3; clear hb2 hr2 hm2 hs2 hm3) | (refine wpList_load_row rfl 43 _ rfl w.heap.size rfl 43 (mC M2 (some ⟨gb, 0, none⟩) m.by'.length (.slice (some ⟨gs, 0, none⟩) sy.length sy.length) ta2 tc2) (0, 0) _ HM3.out.b1 Tryz.underlying43 rfl (qBr _ _ _ _ _ _) ?_) | (refine wpList_store_row rfl 43 _ _ rfl (w.heap.size + 1) (mC M2 (some ⟨gb, 0, none⟩) m.by'.length (.slice (some ⟨gs, 0, none⟩) sy.length sy.length) ta2 tc2) rfl rfl 43 #[.int .i64 0, .int .i64 0, .int .i64 0, .int .i64 0, .int .i64 0, .int .i64 0, .int .i64 0, .int .i64 0, .int .i64 0, .int .i64 0, .int .i64 0, .int .i64 0, .int .i64 0, .int .i64 0, .int .i64 0, .int .i64 0, .bool false, .int .i64 0, .int .i64 0, .int .i64 0, .slice none 0 0, .slice none 0 0, .slice none 0 0, .int .i64 0] HR2.out (qBr _ _ _ _ _ _) rfl (mAll _ _ _ _ _ _ _ _) ?_) | fail)
     have hrow := HM3.out.row29 HR2.out (by omega) (by omega) (mC M2 (some ⟨gb, 0, none⟩) m.by'.length (.slice (some ⟨gs, 0, none⟩) sy.length sy.length) ta2 tc2)
     have hsy := setRow_other W2 (w.heap.size + 1) gs (mC M2 (some ⟨gb, 0, none⟩) m.by'.length (.slice (some ⟨gs, 0, none⟩) sy.length sy.length) ta2 tc2) (by have := HS2.out.h4; omega)
     exact bodyPost_ret (v := .tuple #[.agg (mC M2 (some ⟨gb, 0, none⟩) m.by'.length (.slice (some ⟨gs, 0, none⟩) sy.length sy.length) ta2 tc2), .int .i64 0]) (res_r Tryz.results11 rfl rfl (setRow_heap _ _ _ _ _ _ HR2.out) (qBr _ _ _ _ _ _)) rfl ⟨_, by rw [HF.out.1], below_setRow HS2.out.bel (by omega) _, Or.inr ⟨HF.out.1, by rw [HF.out.2]; exact hrow.mv (hsy.trans HS2.out.sym) (by have := HS2.out.h3; omega) (by have := HS2.out.h4; omega) (by have := HS2.out.h1; omega)⟩⟩
    ·have hd' : qAm M = false := by simpa using hd
     have HN := Lib.hid (HA.out.step hlt h0 hd')
     rw [h0, hd'] at HST
     clear h0 hd hd' HA HS
     generalize qx M = M2 at *
     go_wp2_with (first | (go_at_call 18; refine HST.out.mono ?_; rintro e W2 ⟨rfl, hb2, hr2, hm2⟩; have HS2 := Lib.hid (hm2 (by first | rfl | trivial)); clear hb2 hr2 hm2) | fail)
     exact ⟨⟨k + 1, by omega, by go_num, M2, HN, HS2⟩, by simp [intOf]; omega⟩
   ·have HF := Lib.hid (HA.out.bad hlt h0)
    have HN := Lib.hid h0
    have h0b : (qAE M != 0) = true := by simpa using h0
    rw [zLit] at HST
    clear h0 HA HS
    generalize qAE M = EE at *
    generalize qAm M = DD at *
    go_wp2_with (first | (go_at_call 18; refine HST.out.mono ?_; rintro e W2 ⟨rfl, hb2, hr2, hm2⟩; have HB2 := Lib.hid hb2; have HR2 := Lib.hid hr2; clear hb2 hr2 hm2) | (refine wpList_store_row rfl 43 _ _ rfl (w.heap.size + 1) #[.int .i64 0, .int .i64 0, .int .i64 0, .int .i64 0, .int .i64 0, .int .i64 0, .int .i64 0, .int .i64 0, .int .i64 0, .int .i64 0, .int .i64 0, .int .i64 0, .int .i64 0, .int .i64 0, .int .i64 0, .int .i64 0, .bool false, .int .i64 0, .int .i64 0, .int .i64 0, .slice none 0 0, .slice none 0 0, .slice none 0 0, .int .i64 0] rfl rfl 43 #[.int .i64 0, .int .i64 0, .int .i64 0, .int .i64 0, .int .i64 0, .int .i64 0, .int .i64 0, .int .i64 0, .int .i64 0, .int .i64 0, .int .i64 0, .int .i64 0, .int .i64 0, .int .i64 0, .int .i64 0, .int .i64 0, .bool false, .int .i64 0, .int .i64 0, .int .i64 0, .slice none 0 0, .slice none 0 0, .slice none 0 0, .int .i64 0] HR2.out qGf rfl zAll ?_) | fail)
    exact bodyPost_ret (v := .tuple #[.agg zC, .int .i64 EE]) (res_r Tryz.results11 rfl rfl (setRow_heap _ _ _ _ _ _ HR2.out) qGf) rfl ⟨_, by rw [HF.out], below_setRow HB2.out (by omega) _, Or.inl ⟨by rw [HF.out]; exact HN.out, rfl⟩⟩
  ·have hk1 : ¬ (k : Int) < n := by omega
   obtain rfl : k = n := by omega
   have HF := Lib.hid HA.out.out
   have HB2 := Lib.hid HS.out.bel
   have HR2 := Lib.hid HS.out.res
   rw [zLit] at HR2
   clear HA HS
   go_wp2_with (first | (refine wpList_store_row rfl 43 _ _ rfl (w.heap.size + 1) #[.int .i64 0, .int .i64 0, .int .i64 0, .int .i64 0, .int .i64 0, .int .i64 0, .int .i64 0, .int .i64 0, .int .i64 0, .int .i64 0, .int .i64 0, .int .i64 0, .int .i64 0, .int .i64 0, .int .i64 0, .int .i64 0, .bool false, .int .i64 0, .int .i64 0, .int .i64 0, .slice none 0 0, .slice none 0 0, .slice none 0 0, .int .i64 0] rfl rfl 43 #[.int .i64 0, .int .i64 0, .int .i64 0, .int .i64 0, .int .i64 0, .int .i64 0, .int .i64 0, .int .i64 0, .int .i64 0, .int .i64 0, .int .i64 0, .int .i64 0, .int .i64 0, .int .i64 0, .int .i64 0, .int .i64 0, .bool false, .int .i64 0, .int .i64 0, .int .i64 0, .slice none 0 0, .slice none 0 0, .slice none 0 0, .int .i64 0] HR2.out qGf rfl zAll ?_) | fail)
   exact bodyPost_ret (v := .tuple #[.agg zC, .int .i64 13]) (res_r Tryz.results11 rfl rfl (setRow_heap _ _ _ _ _ _ HR2.out) qGf) rfl ⟨_, by rw [HF.out], below_setRow HB2.out (by omega) _, Or.inl ⟨by rw [HF.out]; decide, rfl⟩⟩
structure I4 where
 op : Int
 n : Int
 m : Int
 imm : Int
def I4.enc (k : I4) : Int := encI k.op k.n k.m k.imm
def I4.ok (k : I4) : Prop := qW k.op k.n k.m k.imm = 0
def qC1 (n : Int) : List UInt8 := [lowB (n / 256), lowB n]
def qI (l : List I4) : List UInt8 := l.flatMap fun k => qC1 k.enc
theorem qA8 : ∀ l : List I4, (qI l).length = 2 * l.length
 | [] => rfl
 | a :: l => by
   have := qA8 l
   have e : qI (a :: l) = qC1 a.enc ++ qI l := by simp [qI]
   rw [e, List.length_append, this, List.length_cons]
   simp [qC1]
   omega
theorem qGF (l : List I4) (i : Nat) (h : i < l.length) : qI l = qI (l.take i) ++ (qC1 l[i].enc ++ qI (l.drop (i + 1))) := by
 have e : l = l.take i ++ (l[i] :: l.drop (i + 1)) := by rw [List.getElem_cons_drop, List.take_append_drop]
 have e2 : qI l = qI (l.take i ++ (l[i] :: l.drop (i + 1))) := by rw [<- e]
 rw [e2]
 simp only [qI, List.flatMap_append, List.flatMap_cons]
theorem qMM (a b : List UInt8) (x : Int) (h0 : 0 <= x) (h1 : x <= 65535) : qBF (bsOf (a ++ (qC1 x ++ b))) (a ++ (qC1 x ++ b)).length (a.length : Int) 2 = x := by
 have hx : ∀ j : Nat, j < 2 -> qB4 (bsOf (a ++ (qC1 x ++ b))) (a ++ (qC1 x ++ b)).length ((a.length : Int) + j) = (((qC1 x).getD j 0).toNat : Int) := by
  intro j hj
  unfold qB4
  rw [if_pos ⟨by omega, by simp only [List.length_append, qC1, List.length_cons, List.length_nil]; omega⟩]
  have : ((a.length : Int) + j).toNat = a.length + j := by omega
  rw [this]
  unfold bsOf
  rw [List.getD_eq_getElem?_getD, List.getD_eq_getElem?_getD, List.getElem?_append_right (by omega), List.getElem?_append_left (by simp [qC1]; omega)]
  rw [show a.length + j - a.length = j by omega]
 have y0 := hx 0 (by omega)
 have y1 := hx 1 (by omega)
 simp only [qC1, List.getD_cons_zero, List.getD_cons_succ, qBI] at y0 y1
 simp only [qBF]
 rw [show qC1 x = [lowB (x / 256), lowB x] from rfl, y0, y1]
 omega
theorem enc_in {k : I4} (h : k.ok) : 0 <= k.enc /\ k.enc <= 65535 := by
 have h2 := (turn1 h).2
 unfold decE at h2
 split at h2
 ·next hw =>
  unfold qR at hw
  simp at hw
  exact hw
 ·simp at h2
theorem qIP {m : Ma} {l : List I4} {i : Nat} {a : Int} (hb : m.base = 0) (hc : m.by' = qI l) (hi : i < l.length) (hok : l[i].ok) (ha : a = 2 * i) :
  qe m a = 0 /\ fV m a 0 = l[i].op /\ fV m a 1 = l[i].n /\ fV m a 2 = l[i].m /\ fV m a 3 = l[i].imm := by
 have hl := qA8 l
 have hh : hasB m a 2 = true := by
  unfold hasB
  rw [hb, hc, hl]
  simp only [Bool.and_eq_true, decide_eq_true_eq]
  refine ⟨?_, ?_, ?_⟩ <;> omega
 have hr := enc_in hok
 have hw : qBc m a = l[i].enc := by
  unfold qBc
  rw [hb, hc, qGF l i hi]
  have hlen : ((qI (l.take i)).length : Int) = a - 0 := by rw [qA8, List.length_take]; omega
  rw [<- hlen]
  exact qMM _ _ _ hr.1 hr.2
 obtain ⟨t1, t2⟩ := turn1 hok
 unfold qe fV
 rw [if_pos hh, if_pos hh, if_pos hh, if_pos hh, if_pos hh, hw]
 refine ⟨t2, ?_, ?_, ?_, ?_⟩ <;> (unfold dV; show (match decV (encI l[i].op l[i].n l[i].m l[i].imm) with | .agg a => intOf (a.getD _ (.int .i64 0)) | _ => 0) = _; rw [t1]; rfl)
theorem ok1 : (⟨1, 0, 0, 0⟩ : I4).ok := by show qW 1 0 0 0 = 0; kernel_rfl
theorem ok27 : (⟨27, 0, 0, 1⟩ : I4).ok := by show qW 27 0 0 1 = 0; kernel_rfl
theorem ok27' : (⟨27, 0, 0, 0⟩ : I4).ok := by show qW 27 0 0 0 = 0; kernel_rfl
structure At (m : Ma) (l : List I4) (i : Nat) (x y : Int) (tt : Bool) (told : List Int) : Prop where
 base : m.base = 0
 by' : m.by' = qI l
 pc : m.pc = 2 * i
 r0 : m.r 0 = x
 r1 : m.r 1 = y
 t : m.t = tt
 told : m.told = told
def Goes (m : Ma) : Prop := qAE m = 0 /\ qAm m = false /\ ResM m
section
variable {m : Ma} {l : List I4} {i : Nat} {x y : Int} {tt : Bool} {told : List Int}
theorem qFl (h : At m l i x y tt told) (hi : i < l.length) (hok : l[i].ok) (hl : qAX l[i].op = false) (hn : ¬ (l[i].op = 27 /\ l[i].imm = 0)) (hm : l[i].op < 23 \/ l[i].op = 27) (hr : Res l[i].op) :
  Goes m /\ qx m = { qX { m with st := m.st + 1 } l[i].op l[i].n l[i].m l[i].imm m.pc with pc := m.pc + 2 } := by
 obtain ⟨f0, f1, f2, f3, f4⟩ := qIP h.base h.by' hi hok h.pc
 refine ⟨⟨?_, ?_, fun _ => by rw [f1]; exact hr, fun h => by rw [f1, hl] at h; cases h⟩, ?_⟩
 ·unfold qAE
  rw [f0, f1, f2, f3, f4, if_neg (by simp), if_neg hn, if_pos hl]
  unfold qAN
  rw [if_neg (by omega)]
 ·unfold qAm
  rw [f0, f1, f4]
  simpa using hn
 ·unfold qx
  rw [f1, f2, f3, f4, if_neg hn, if_pos hl]
theorem go_nop (h : At m l i x y tt told) (hi : i < l.length) (hk : l[i] = ⟨1, 0, 0, 0⟩) : Goes m /\ At (qx m) l (i + 1) x y tt told := by
 obtain ⟨g, e⟩ := qFl h hi (by rw [hk]; exact ok1) (by rw [hk]; rfl) (by rw [hk]; decide) (by rw [hk]; decide) (by rw [hk]; exact .inl (show (1 : Int) <= 10 by decide))
 refine ⟨g, ?_⟩
 rw [e, hk]
 exact ⟨h.base, h.by', by show m.pc + 2 = _; rw [h.pc]; omega, h.r0, h.r1, h.t, h.told⟩
theorem go_mov0 (c : Int) (h : At m l i x y tt told) (hi : i < l.length) (hk : l[i] = ⟨3, 0, 0, c⟩) (hok : l[i].ok) : Goes m /\ At (qx m) l (i + 1) c y tt told := by
 obtain ⟨g, e⟩ := qFl h hi hok (by rw [hk]; rfl) (by rw [hk]; intro h; exact absurd h.1 (show (3 : Int) ≠ 27 by decide)) (by rw [hk]; left; show (3 : Int) < 23; decide) (by rw [hk]; exact .inl (show (3 : Int) <= 10 by decide))
 refine ⟨g, ?_⟩
 rw [e, hk]
 exact ⟨h.base, h.by', by show m.pc + 2 = _; rw [h.pc]; omega, rfl, h.r1, h.t, h.told⟩
theorem go_tell (h : At m l i x y tt told) (hi : i < l.length) (hk : l[i] = ⟨27, 0, 0, 1⟩) : Goes m /\ At (qx m) l (i + 1) x y tt (told ++ [x]) := by
 obtain ⟨g, e⟩ := qFl h hi (by rw [hk]; exact ok27) (by rw [hk]; rfl) (by rw [hk]; decide) (by rw [hk]; decide) (by rw [hk]; exact .inr (.inr (.inr (.inr rfl))))
 refine ⟨g, ?_⟩
 rw [e, hk]
 refine ⟨h.base, h.by', by show m.pc + 2 = _; rw [h.pc]; omega, h.r0, h.r1, h.t, ?_⟩
 show m.told ++ [m.r 0] = _
 rw [h.told, h.r0]
theorem at_end (h : At m l i x y tt told) (hi : i < l.length) (hk : l[i] = ⟨27, 0, 0, 0⟩) : qAE m = 0 /\ qAm m = true /\ (qx m).told = told /\ ResM m := by
 obtain ⟨f0, f1, f2, f3, f4⟩ := qIP h.base h.by' hi (by rw [hk]; exact ok27') h.pc
 rw [hk] at f1 f2 f3 f4
 refine ⟨?_, ?_, ?_, fun _ => by rw [f1]; exact .inr (.inr (.inr (.inr rfl))), fun h => by rw [f1] at h; exact absurd h (by decide)⟩
 ·unfold qAE
  rw [f0, f1, f4, if_neg (by simp), if_pos ⟨rfl, rfl⟩]
 ·unfold qAm
  rw [f0, f1, f4]
  rfl
 ·unfold qx
  rw [f1, f4, if_pos ⟨rfl, rfl⟩]
  exact h.told
end
inductive Walks : Nat -> Ma -> Ma -> Prop where
 | here (m : Ma) : Walks 0 m m
 | step {n : Nat} {m k : Ma} (h : Goes m) (r : Walks n (qx m) k) : Walks (n + 1) m k
theorem Walks.trans {a b : Nat} {m k q : Ma} (h : Walks a m k) (r : Walks b k q) : Walks (a + b) m q := by
 induction h with
 | here => simpa using r
 | step h _ ih => rw [Nat.succ_add]; exact .step h (ih r)
theorem Walks.run {a n : Nat} {m k : Ma} (h : Walks a m k) : runE (a + n) m = runE n k /\ runM (a + n) m = runM n k := by
 induction h with
 | here => simp
 | step h _ ih =>
   rw [Nat.succ_add]
   simp only [runE, runM]
   rw [if_neg (by rw [h.1]; simp), if_neg (by rw [h.2.1]; simp), if_neg (by rw [h.1]; simp), if_neg (by rw [h.2.1]; simp)]
   exact ih
theorem Rch.first {m M : Ma} (h : Rch m M) : M = m \/ (qAE m = 0 /\ qAm m = false /\ Rch (qx m) M) := by
 induction h with
 | here => exact .inl rfl
 | step r h0 hd ih =>
   rcases ih with rfl | ⟨a, b, c⟩
   ·exact .inr ⟨h0, hd, .here⟩
   ·exact .inr ⟨a, b, .step c h0 hd⟩
theorem Walks.res {a : Nat} {m k : Ma} (h : Walks a m k) (hd : qAm k = true) (hk : ResM k) : ∀ M, Rch m M -> ResM M := by
 induction h with
 | here m =>
   intro M hM
   rcases hM.first with rfl | ⟨_, b, _⟩
   ·exact hk
   ·rw [hd] at b; cases b
 | step g _ ih =>
   intro M hM
   rcases hM.first with rfl | ⟨_, _, c⟩
   ·exact g.2.2
   ·exact ih hd hk M c
end Go.Proofs.YtfmljailbebfgaaGreatDoor.Si
