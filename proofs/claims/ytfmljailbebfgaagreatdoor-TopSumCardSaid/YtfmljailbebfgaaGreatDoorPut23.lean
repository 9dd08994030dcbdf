import Derived.Test.YtfmljailbebfgaaGreatDoorPut22
import Derived.Test.YtfmljailbebfgaaGreatDoorSnO
set_option maxHeartbeats 8000000
set_option maxRecDepth 100000
namespace Go.Proofs.YtfmljailbebfgaaGreatDoor.Si
open Go.RowKit Isa
theorem qBk {P : Program} {ops : Array Oper} {o : Oper} {a : Act} {w : World} {K : Act -> World -> Prop} {Q : Exit -> Act -> World -> Prop} {E : Prop} (hgd : o.guard = none) (hd : o.dst = none) (ty : TypeId) (p x : Operand) (ho : o.op = .store ty p x) (g : Nat) (c : Array Value) (hp : a.eval p = .pointer (some ⟨g, 0, none⟩)) (hx : a.eval x = .agg c) (t : TypeId) (old : Array Value) (hg : w.heap[g]? = some (.cells old t (0, 0))) (hs : (P.info? ty).map (·.size) = some c.size) (hsz : old.size = c.size) (h1 : c.all (·.oneCell') = true)
  (h : K a (w.setRow g c)) : if Region.wanted o (yielded ops a.tmps) = true then Oper.wp P o a w K Q else E := by
 have hw : Region.wanted o (yielded ops a.tmps) = true := by simp [Region.wanted, hgd]
 rw [if_pos hw]
 exact wp_store_row ty p x ho g c hp hx t old hg hs hsz h1 (by rw [hd]; exact h)
theorem pnew_any (base : Int) (l : List UInt8) (ba : Option Addr) (bc : Nat) (sy : List Sy) (s0 : Option Addr) (s2 : Nat) (w : World) (hB : BRd w ba l) (hS : qDH w s0 sy.length (qZ sy)) (hl : l.length * 1 <= 140737488355328) (hsl : sy.length * 24 <= 140737488355328) :
  Calls Tryz.prog 12 #[.agg #[.int .i64 base, .slice ba l.length bc, .slice s0 sy.length s2]] w fun e w' => ∃ gb gs, e = .returned (.agg (mC (newM base l) (some ⟨gb, 0, none⟩) l.length (.slice (some ⟨gs, 0, none⟩) sy.length sy.length) none 0)) /\ Below w.heap.size w w' /\ w.heap.size <= gb /\ w.heap.size <= gs /\ w'.heap[gb]? = some (.cells (qA8 l).toArray 5 (0, 0)) /\ w'.heap[gs]? = some (.cells (qZ sy).toArray 83 (0, 0)) := by
 obtain ⟨V, hV⟩ : ∃ V, V = (w.alloc (.cells #[.int .i64 base, .slice ba l.length bc, .slice s0 sy.length s2] 36)).alloc (.cells #[.int .i64 0, .int .i64 0, .int .i64 0, .int .i64 0, .int .i64 0, .int .i64 0, .int .i64 0, .int .i64 0, .int .i64 0, .int .i64 0, .int .i64 0, .int .i64 0, .int .i64 0, .int .i64 0, .int .i64 0, .int .i64 0, .bool false, .int .i64 0, .int .i64 0, .int .i64 0, .slice none 0 0, .slice none 0 0, .slice none 0 0, .int .i64 0] 43) := ⟨_, rfl⟩
 have hV0 : Below w.heap.size w V := by rw [hV]; exact (qD _ _).trans ((qD _ _).mono (by simp))
 have hV1 : V.heap[w.heap.size]? = some (.cells #[.int .i64 base, .slice ba l.length bc, .slice s0 sy.length s2] 36 (0, 0)) := by rw [hV, (qD _ _).block _ (by simp)]; exact qH _ _ _
 have hV2 : V.heap[w.heap.size + 1]? = some (.cells #[.int .i64 0, .int .i64 0, .int .i64 0, .int .i64 0, .int .i64 0, .int .i64 0, .int .i64 0, .int .i64 0, .int .i64 0, .int .i64 0, .int .i64 0, .int .i64 0, .int .i64 0, .int .i64 0, .int .i64 0, .int .i64 0, .bool false, .int .i64 0, .int .i64 0, .int .i64 0, .slice none 0 0, .slice none 0 0, .slice none 0 0, .int .i64 0] 43 (0, 0)) := by
  rw [hV]
  have := qH (w.alloc (.cells #[.int .i64 base, .slice ba l.length bc, .slice s0 sy.length s2] 36)) #[.int .i64 0, .int .i64 0, .int .i64 0, .int .i64 0, .int .i64 0, .int .i64 0, .int .i64 0, .int .i64 0, .int .i64 0, .int .i64 0, .int .i64 0, .int .i64 0, .int .i64 0, .int .i64 0, .int .i64 0, .int .i64 0, .bool false, .int .i64 0, .int .i64 0, .int .i64 0, .slice none 0 0, .slice none 0 0, .slice none 0 0, .int .i64 0] 43
  simpa using this
 have HV := Lib.hid hV.symm
 have BX0 : Hid (V.drew.heap[w.heap.size]? = some (.cells #[.int .i64 base, .slice ba l.length bc, .slice s0 sy.length s2] 36 (0, 0))) := hV1
 have BZ0 : Hid (V.drew.heap[w.heap.size + 1]? = some (.cells #[.int .i64 0, .int .i64 0, .int .i64 0, .int .i64 0, .int .i64 0, .int .i64 0, .int .i64 0, .int .i64 0, .int .i64 0, .int .i64 0, .int .i64 0, .int .i64 0, .int .i64 0, .int .i64 0, .int .i64 0, .int .i64 0, .bool false, .int .i64 0, .int .i64 0, .int .i64 0, .slice none 0 0, .slice none 0 0, .slice none 0 0, .int .i64 0] 43 (0, 0))) := hV2
 have BE0 := Lib.hid hV0.drew
 have HIM : Hid (∀ X, Below w.heap.size w X -> Calls Tryz.prog 19 #[.agg #[.int .i64 base, .slice ba l.length bc, .slice s0 sy.length s2]] X fun e w' => ∃ gb gs, e = .returned (.agg #[.int .i64 base, .slice (some ⟨gb, 0, none⟩) l.length l.length, .slice (some ⟨gs, 0, none⟩) sy.length sy.length]) /\ Below X.heap.size X w' /\ X.heap.size <= gb /\ X.heap.size <= gs /\ w'.heap[gb]? = some (.cells (qA8 l).toArray 5 (0, 0)) /\ w'.heap[gs]? = some (.cells (qZ sy).toArray 83 (0, 0))) := fun X hX => qFE base l ba bc sy s0 s2 X (hB.next hX) (hS.below hX (Nat.le_refl _)) hl hsl
 clear hV hV0 hV1 hV2 hB hS
 go_enter Tryz.func12, Tryz.ntmps12
 go_upto_region 1 with fail
 rw [HV.out]
 clear HV
 refine wp_region_noPanic ?_
 refine wp_region_held_drew (S := fun _ => True) (by kernel_rfl) trivial (fun hHeld => ?_)
 generalize V.drew = V0 at *
 refine tk 0 3 hHeld ?_
 simp only [sA, sB, sC]
 refine wpAnyH_ready (rs := [1, 2]) (by kernel_rfl) (by simp) ?_
 refine AllReadyH.cons rfl (fun K hK => ?_) (AllReadyH.cons rfl (fun K hK => ?_) AllReadyH.nil)
 ·have x := qA (i := 0) BX0.out rfl
  go_simp
  refine hK.out _ _ trivial (fun hHeld => ?_)
  clear hK K x
  refine wr1 2 fun K hK => ?_
  have x0 := qA (i := 0) BX0.out rfl
  have x1 := qA (i := 1) BX0.out rfl
  have x2 := qA (i := 2) BX0.out rfl
  go_simp
  refine hK.out _ _ trivial (fun hHeld => ?_)
  clear hK K x0 x1 x2
  refine wr1 3 fun K hK => ?_
  go_simp
  refine (HIM.out V0 BE0.out).mono ?_
  rintro e V1 ⟨gb, gs, rfl, hb, hgb, hgs, hrb, hrs⟩
  have BX1 := Lib.hid ((hb.block _ (Array.getElem?_eq_some_iff.1 BX0.out).1).trans BX0.out)
  have BZ1 := Lib.hid ((hb.block _ (Array.getElem?_eq_some_iff.1 BZ0.out).1).trans BZ0.out)
  have RB1 := Lib.hid hrb
  have RS1 := Lib.hid hrs
  have BE1 := Lib.hid (BE0.out.trans (hb.mono BE0.out.size))
  have hz0 := (Array.getElem?_eq_some_iff.1 BZ0.out).1
  refine hK.out _ _ trivial (fun hHeld => ?_)
  clear hK K hb hrb hrs BX0 BZ0 BE0
  refine wr1 4 fun K hK => ?_
  go_simp
  refine hK.out _ _ trivial (fun hHeld => ?_)
  clear hK K
  refine wr1 5 fun K hK => ?_
  refine qBk (by rfl) (by rfl) 43 (.tmp 2) (.tmp 7) (by rfl) (w.heap.size + 1) (mC (newM base l) (some ⟨gb, 0, none⟩) l.length (.slice (some ⟨gs, 0, none⟩) sy.length sy.length) none 0) (by rfl) (by rfl) 43 #[.int .i64 0, .int .i64 0, .int .i64 0, .int .i64 0, .int .i64 0, .int .i64 0, .int .i64 0, .int .i64 0, .int .i64 0, .int .i64 0, .int .i64 0, .int .i64 0, .int .i64 0, .int .i64 0, .int .i64 0, .int .i64 0, .bool false, .int .i64 0, .int .i64 0, .int .i64 0, .slice none 0 0, .slice none 0 0, .slice none 0 0, .int .i64 0] BZ1.out (qBn _ _ _ _ _ _) rfl (mAll _ _ _ _ _ _ _ _) ?_
  refine hK.out _ _ trivial (fun hHeld => ?_)
  clear hK K
  refine wpAnyH_done (by kernel_rfl) ?_ _
  refine NoPanic.normal ?_
  go_wp2
  refine bodyPost_ret (v := .agg (mC (newM base l) (some ⟨gb, 0, none⟩) l.length (.slice (some ⟨gs, 0, none⟩) sy.length sy.length) none 0)) (res_1 Tryz.results12 rfl (setRow_heap _ _ _ _ _ _ BZ1.out) (qBn _ _ _ _ _ _)) rfl ⟨gb, gs, rfl, below_setRow BE1.out (by omega) _, by omega, by omega, ?_, ?_⟩
  ·rw [setRow_other _ _ _ _ (by omega)]; exact RB1.out
  ·rw [setRow_other _ _ _ _ (by omega)]; exact RS1.out
 ·have x0 := qA (i := 0) BX0.out rfl
  have x1 := qA (i := 1) BX0.out rfl
  have x2 := qA (i := 2) BX0.out rfl
  go_simp
  refine hK.out _ _ trivial (fun hHeld => ?_)
  clear hK K x0 x1 x2
  refine wpAnyH_ready (rs := [1, 3]) (by kernel_rfl) (by simp) ?_
  refine AllReadyH.cons rfl (fun K hK => ?_) (AllReadyH.cons rfl (fun K hK => ?_) AllReadyH.nil)
  ·have x := qA (i := 0) BX0.out rfl
   go_simp
   refine hK.out _ _ trivial (fun hHeld => ?_)
   clear hK K x
   refine wr1 3 fun K hK => ?_
   go_simp
   refine (HIM.out V0 BE0.out).mono ?_
   rintro e V1 ⟨gb, gs, rfl, hb, hgb, hgs, hrb, hrs⟩
   have BX1 := Lib.hid ((hb.block _ (Array.getElem?_eq_some_iff.1 BX0.out).1).trans BX0.out)
   have BZ1 := Lib.hid ((hb.block _ (Array.getElem?_eq_some_iff.1 BZ0.out).1).trans BZ0.out)
   have RB1 := Lib.hid hrb
   have RS1 := Lib.hid hrs
   have BE1 := Lib.hid (BE0.out.trans (hb.mono BE0.out.size))
   have hz0 := (Array.getElem?_eq_some_iff.1 BZ0.out).1
   refine hK.out _ _ trivial (fun hHeld => ?_)
   clear hK K hb hrb hrs BX0 BZ0 BE0
   refine wr1 4 fun K hK => ?_
   go_simp
   refine hK.out _ _ trivial (fun hHeld => ?_)
   clear hK K
   refine wr1 5 fun K hK => ?_
   refine qBk (by rfl) (by rfl) 43 (.tmp 2) (.tmp 7) (by rfl) (w.heap.size + 1) (mC (newM base l) (some ⟨gb, 0, none⟩) l.length (.slice (some ⟨gs, 0, none⟩) sy.length sy.length) none 0) (by rfl) (by rfl) 43 #[.int .i64 0, .int .i64 0, .int .i64 0, .int .i64 0, .int .i64 0, .int .i64 0, .int .i64 0, .int .i64 0, .int .i64 0, .int .i64 0, .int .i64 0, .int .i64 0, .int .i64 0, .int .i64 0, .int .i64 0, .int .i64 0, .bool false, .int .i64 0, .int .i64 0, .int .i64 0, .slice none 0 0, .slice none 0 0, .slice none 0 0, .int .i64 0] BZ1.out (qBn _ _ _ _ _ _) rfl (mAll _ _ _ _ _ _ _ _) ?_
   refine hK.out _ _ trivial (fun hHeld => ?_)
   clear hK K
   refine wpAnyH_done (by kernel_rfl) ?_ _
   refine NoPanic.normal ?_
   go_wp2
   refine bodyPost_ret (v := .agg (mC (newM base l) (some ⟨gb, 0, none⟩) l.length (.slice (some ⟨gs, 0, none⟩) sy.length sy.length) none 0)) (res_1 Tryz.results12 rfl (setRow_heap _ _ _ _ _ _ BZ1.out) (qBn _ _ _ _ _ _)) rfl ⟨gb, gs, rfl, below_setRow BE1.out (by omega) _, by omega, by omega, ?_, ?_⟩
   ·rw [setRow_other _ _ _ _ (by omega)]; exact RB1.out
   ·rw [setRow_other _ _ _ _ (by omega)]; exact RS1.out
  ·go_simp
   refine (HIM.out V0 BE0.out).mono ?_
   rintro e V1 ⟨gb, gs, rfl, hb, hgb, hgs, hrb, hrs⟩
   have BX1 := Lib.hid ((hb.block _ (Array.getElem?_eq_some_iff.1 BX0.out).1).trans BX0.out)
   have BZ1 := Lib.hid ((hb.block _ (Array.getElem?_eq_some_iff.1 BZ0.out).1).trans BZ0.out)
   have RB1 := Lib.hid hrb
   have RS1 := Lib.hid hrs
   have BE1 := Lib.hid (BE0.out.trans (hb.mono BE0.out.size))
   have hz0 := (Array.getElem?_eq_some_iff.1 BZ0.out).1
   refine hK.out _ _ trivial (fun hHeld => ?_)
   clear hK K hb hrb hrs BX0 BZ0 BE0
   refine wr1 1 fun K hK => ?_
   have x := qA (i := 0) BX1.out rfl
   go_simp
   refine hK.out _ _ trivial (fun hHeld => ?_)
   clear hK K x
   refine wr1 4 fun K hK => ?_
   go_simp
   refine hK.out _ _ trivial (fun hHeld => ?_)
   clear hK K
   refine wr1 5 fun K hK => ?_
   refine qBk (by rfl) (by rfl) 43 (.tmp 2) (.tmp 7) (by rfl) (w.heap.size + 1) (mC (newM base l) (some ⟨gb, 0, none⟩) l.length (.slice (some ⟨gs, 0, none⟩) sy.length sy.length) none 0) (by rfl) (by rfl) 43 #[.int .i64 0, .int .i64 0, .int .i64 0, .int .i64 0, .int .i64 0, .int .i64 0, .int .i64 0, .int .i64 0, .int .i64 0, .int .i64 0, .int .i64 0, .int .i64 0, .int .i64 0, .int .i64 0, .int .i64 0, .int .i64 0, .bool false, .int .i64 0, .int .i64 0, .int .i64 0, .slice none 0 0, .slice none 0 0, .slice none 0 0, .int .i64 0] BZ1.out (qBn _ _ _ _ _ _) rfl (mAll _ _ _ _ _ _ _ _) ?_
   refine hK.out _ _ trivial (fun hHeld => ?_)
   clear hK K
   refine wpAnyH_done (by kernel_rfl) ?_ _
   refine NoPanic.normal ?_
   go_wp2
   refine bodyPost_ret (v := .agg (mC (newM base l) (some ⟨gb, 0, none⟩) l.length (.slice (some ⟨gs, 0, none⟩) sy.length sy.length) none 0)) (res_1 Tryz.results12 rfl (setRow_heap _ _ _ _ _ _ BZ1.out) (qBn _ _ _ _ _ _)) rfl ⟨gb, gs, rfl, below_setRow BE1.out (by omega) _, by omega, by omega, ?_, ?_⟩
   ·rw [setRow_other _ _ _ _ (by omega)]; exact RB1.out
   ·rw [setRow_other _ _ _ _ (by omega)]; exact RS1.out
def MV (w : World) (v : Value) (m : Ma) (sy : List Sy) : Prop := ∃ ba bc s0 s2 ta tc, v = .agg (mC m ba bc (.slice s0 sy.length s2) ta tc) /\ BRd w ba m.by' /\ TRd w ta m.told /\ qDH w s0 sy.length (qZ sy)
def MVb (B : Nat) (w : World) (v : Value) (m : Ma) (sy : List Sy) : Prop := ∃ ba bc s0 s2 ta tc, v = .agg (mC m ba bc (.slice s0 sy.length s2) ta tc) /\ BRd w ba m.by' /\ TRd w ta m.told /\ qDH w s0 sy.length (qZ sy) /\ (∀ a, ba = some a -> 0 < m.by'.length -> B <= a.block) /\ (∀ a, ta = some a -> 0 < m.told.length -> B <= a.block) /\ (∀ a, s0 = some a -> 0 < sy.length -> B <= a.block)
theorem MVb.mv {B : Nat} {w : World} {v : Value} {m : Ma} {sy : List Sy} (h : MVb B w v m sy) : MV w v m sy := by
 obtain ⟨ba, bc, s0, s2, ta, tc, e, h1, h2, h3, _⟩ := h
 exact ⟨ba, bc, s0, s2, ta, tc, e, h1, h2, h3⟩
theorem qLK {m : Ma} (h : qAH m ≠ 0) : qAq m = false := by
 unfold qAq
 simp only [decide_eq_false_iff_not]
 rintro ⟨h1, h2⟩
 exact h (stepZ h1 h2).1
theorem MR.row29 {K g : Nat} {m : Ma} {gb bc : Nat} {sv : Value} {ta : Option Addr} {tc : Nat} {W : World} (h : MR K g m gb bc sv ta tc W) {r : Nat} {c0 : Array Value} (hr : W.heap[r]? = some (.cells c0 43 (0, 0))) (hne : g ≠ r) (h1r : max 1 4 < r) (c : Array Value) : MR K g m gb bc sv ta tc (W.setRow r c) := by
 have hgb : gb ≠ r := by
  intro e
  have h1 := h.bb
  rw [e, hr] at h1
  injection h1 with h1
  injection h1 with _ h2
  exact absurd h2 (by decide)
 refine ⟨?_, ?_, ?_, ?_, ?_, h.k2, h.g2, h.gb2⟩
 ·rw [setRow_other W r g _ hne]; exact h.b1
 ·rw [setRow_other W r gb _ hgb]; exact h.bb
 ·exact h.tt.kept (qLf W r c) (qEW h.tt hr (by decide))
 ·exact h.la.below (B := max 1 4 + 1) ⟨rfl, rfl, rfl, by simp [World.setRow], fun q hq => setRow_other W r q c (by omega)⟩ (by omega)
 ·simpa [World.setRow] using h.kz
theorem MR.mv {K g : Nat} {m : Ma} {gb bc : Nat} {gs : Nat} {sy : List Sy} {ta : Option Addr} {tc : Nat} {W : World} (h : MR K g m gb bc (.slice (some ⟨gs, 0, none⟩) sy.length sy.length) ta tc W) (hs : W.heap[gs]? = some (.cells (qZ sy).toArray 83 (0, 0))) {B : Nat} (h1 : B <= gb) (h2 : B <= gs) (h3 : B <= K) : MVb B W (.agg (mC m (some ⟨gb, 0, none⟩) bc (.slice (some ⟨gs, 0, none⟩) sy.length sy.length) ta tc)) m sy := by
 refine ⟨_, _, _, _, _, _, rfl, h.brd, h.trd, qDf hs (qCd sy), fun a e _ => ?_, fun a e h0 => ?_, fun a e _ => ?_⟩
 ·cases e; exact h1
 ·subst e
  exact Nat.le_trans h3 (h.tt.lt a.block rfl).1
 ·cases e; exact h2
theorem own_mr {w X : World} {m : Ma} {q gb gs gt : Nat} {sy : List Sy} (hL : Laid X) (hz : max 1 4 < w.heap.size) (hgb : w.heap.size <= gb) (hgt : gb < gt) (hq : max 1 4 < q) (h1 : X.heap[q]? = some (.cells (mC m (some ⟨gb, 0, none⟩) m.by'.length (.slice (some ⟨gs, 0, none⟩) sy.length sy.length) (some ⟨gt, 0, none⟩) m.told.length) 43 (0, 0))) (h2 : X.heap[gb]? = some (.cells (qA8 m.by').toArray 5 (0, 0))) (h3 : X.heap[gt]? = some (.cells (qAs m.told).toArray 3 (0, 0))) (ht : m.told.length <= maxLen) :
  MR gt q m gb m.by'.length (.slice (some ⟨gs, 0, none⟩) sy.length sy.length) (some ⟨gt, 0, none⟩) m.told.length X := by
 refine ⟨h1, h2, ⟨qE1 _, Or.inr ⟨gt, m.told.length, (qAs m.told).toArray, rfl, Nat.le_refl _, h3, Nat.le_refl _, ht, by simp [qAs], ?_⟩⟩, hL, Nat.le_of_lt (Array.getElem?_eq_some_iff.1 h3).1, by omega, hq, by omega⟩
 rw [Nat.mul_one]
 have : (qAs m.told).length = m.told.length := by simp [qAs]
 rw [<- this]
 simp
theorem qHH {m : Ma} (h : qAH m = 0) : qe m m.pc = 0 := by
 unfold qAH at h
 by_cases he : qe m m.pc = 0
 ·exact he
 ·rw [if_pos he] at h
  exact absurd h he
theorem step_len {m : Ma} : (qAJ m).by'.length = m.by'.length := by
 unfold qAJ
 have pp : (preM m).by' = m.by' := by unfold preM; split <;> rfl
 split
 ·rfl
 ·split
  ·exact (qCc { m with st := m.st + 1 } _ _ _ _ _).2.1
  ·split
   ·rfl
   ·show (qT (preM m) _ _ _ _ _).by'.length = _
    rw [(qCc (preM m) _ _ _ _ _).2.1, pp]
inductive Rch (m : Ma) : Ma -> Prop where
 | here : Rch m m
 | step {M : Ma} (h : Rch m M) (h0 : qAH M = 0) (hd : qAq M = false) : Rch m (qAJ M)
structure qEH (n : Nat) (m : Ma) (k : Nat) (M : Ma) : Prop where
 rn : Runs M k
 ee : runE n m = runE (n - k) M
 mm : runM n m = runM (n - k) M
 ln : M.by'.length = m.by'.length
 re : Rch m M
theorem qEH.step {n : Nat} {m : Ma} {k : Nat} {M : Ma} (h : qEH n m k M) (hk : k < n) (h0 : qAH M = 0) (hd : qAq M = false) : qEH n m (k + 1) (qAJ M) := by
 have e : n - k = (n - (k + 1)) + 1 := by omega
 refine ⟨(qMG h.rn (qHH h0)).1, ?_, ?_, by rw [step_len, h.ln], .step h.re h0 hd⟩
 ·rw [h.ee, e, runE, if_neg (by simp [h0]), if_neg (by simp [hd])]
 ·rw [h.mm, e, runM, if_neg (by simp [h0]), if_neg (by simp [hd])]
theorem qEH.bad {n : Nat} {m : Ma} {k : Nat} {M : Ma} (h : qEH n m k M) (hk : k < n) (h0 : qAH M ≠ 0) : runE n m = qAH M := by
 have e : n - k = (n - (k + 1)) + 1 := by omega
 rw [h.ee, e, runE, if_pos h0]
theorem qEH.fin {n : Nat} {m : Ma} {k : Nat} {M : Ma} (h : qEH n m k M) (hk : k < n) (h0 : qAH M = 0) (hd : qAq M = true) : runE n m = 0 /\ runM n m = qAJ M := by
 have e : n - k = (n - (k + 1)) + 1 := by omega
 refine ⟨?_, ?_⟩
 ·rw [h.ee, e, runE, if_neg (by simp [h0]), if_pos hd]
 ·rw [h.mm, e, runM, if_neg (by simp [h0]), if_pos hd]
theorem qEH.out {n : Nat} {m : Ma} {M : Ma} (h : qEH n m n M) : runE n m = 13 := by
 rw [h.ee, Nat.sub_self]
 rfl
structure RS (w : World) (gb gs gt : Nat) (sy : List Sy) (len : Nat) (M : Ma) (W : World) : Prop where
 bel : Below w.heap.size w W
 res : W.heap[w.heap.size + 1]? = some (.cells zC 43 (0, 0))
 mr : ∃ ta tc, MR gt w.heap.size M gb len (.slice (some ⟨gs, 0, none⟩) sy.length sy.length) ta tc W
 sym : W.heap[gs]? = some (.cells (qZ sy).toArray 83 (0, 0))
 h1 : w.heap.size + 1 < gt
 h2 : gs < gt
 h3 : w.heap.size + 1 < gb
 h4 : w.heap.size + 1 < gs
theorem RS.keep {w : World} {gb gs gt : Nat} {sy : List Sy} {len : Nat} {M : Ma} {W : World} (h : RS w gb gs gt sy len M W) {W' : World} {M' : Ma} (hk : Kept gt w.heap.size gb W W') (hm : ∃ ta tc, MR gt w.heap.size M' gb len (.slice (some ⟨gs, 0, none⟩) sy.length sy.length) ta tc W') : RS w gb gs gt sy len M' W' := by
 have hgs : gs ≠ gb := by
  intro e
  obtain ⟨ta, tc, hmr⟩ := h.mr
  have h1 := h.sym
  rw [e, hmr.bb] at h1
  injection h1 with h1
  injection h1 with _ h2
  exact absurd h2 (by decide)
 have hh1 := h.h1
 have hh3 := h.h3
 have hh4 := h.h4
 exact ⟨h.bel.trans (hk.below (by omega) (Nat.le_refl _) (by omega)), by rw [hk.block _ (by omega) (by omega) (by omega)]; exact h.res, hm, by rw [hk.block _ h.h2 (by omega) hgs]; exact h.sym, h.h1, h.h2, h.h3, h.h4⟩
theorem res_r {fn : Func} (hr : fn.results = #[.cell 4 43, .tmp 5]) {T : Array Value} {W : World} {g : Nat} {e : Int} {c : Array Value} (h2 : T.getD 4 undef = .pointer (some ⟨g, 0, none⟩)) (h3 : T.getD 5 undef = .int .i64 e) (hg : W.heap[g]? = some (.cells c 43 (0, 0))) (hs : (Tryz.prog.info? 43).map (·.size) = some c.size) :
  (results fn T).run Tryz.prog W = .ok (.tuple #[.agg c, .int .i64 e]) W := by
 have hl := run_loadVar_row (P := Tryz.prog) W g 43 43 c (0, 0) _ hg Tryz.underlying43 rfl hs
 have h2' : T[4]?.getD undef = .pointer (some ⟨g, 0, none⟩) := by simpa using h2
 have h3' : T[5]?.getD undef = .int .i64 e := by simpa using h3
 simp [results, hr, h2', h3', asAddr, hl]
theorem run_out (m : Ma) (sy : List Sy) (v : Value) (most : Int) (w : World) (hv : MV w v m sy) (hm : most < 0 \/ 2000 < most) :
  Calls Tryz.prog 11 #[v, .int .i64 most] w fun e w' => e = .returned (.tuple #[.agg zC, .int .i64 3]) /\ Below w.heap.size w w' := by
 obtain ⟨ba, bc, s0, s2, ta, tc, rfl, hB, hT, hS⟩ := hv
 obtain ⟨V, hV⟩ : ∃ V, V = (w.alloc (.cells (mC m ba bc (.slice s0 sy.length s2) ta tc) 43)).alloc (.cells zC 43) := ⟨_, rfl⟩
 have hV0 : Below w.heap.size w V := by rw [hV]; exact (qD _ _).trans ((qD _ _).mono (by simp))
 have hV2 : V.heap[w.heap.size + 1]? = some (.cells zC 43 (0, 0)) := by
  rw [hV]
  have := qH (w.alloc (.cells (mC m ba bc (.slice s0 sy.length s2) ta tc) 43)) zC 43
  simpa using this
 have HV := Lib.hid hV.symm
 have HV2 := Lib.hid hV2
 have HB := Lib.hid hV0
 clear hV hV0 hV2 hB hT hS
 rw [zLit] at HV HV2
 rcases hm with hm | hm
 ·go_enter Tryz.func11, Tryz.ntmps11
  go_upto_region 1 with fail
  rw [HV.out]
  clear HV
  go_wp2_with (first | (refine wpList_store_row rfl 43 _ _ rfl (w.heap.size + 1) #[.int .i64 0, .int .i64 0, .int .i64 0, .int .i64 0, .int .i64 0, .int .i64 0, .int .i64 0, .int .i64 0, .int .i64 0, .int .i64 0, .int .i64 0, .int .i64 0, .int .i64 0, .int .i64 0, .int .i64 0, .int .i64 0, .bool false, .int .i64 0, .int .i64 0, .int .i64 0, .slice none 0 0, .slice none 0 0, .slice none 0 0, .int .i64 0] rfl rfl 43 #[.int .i64 0, .int .i64 0, .int .i64 0, .int .i64 0, .int .i64 0, .int .i64 0, .int .i64 0, .int .i64 0, .int .i64 0, .int .i64 0, .int .i64 0, .int .i64 0, .int .i64 0, .int .i64 0, .int .i64 0, .int .i64 0, .bool false, .int .i64 0, .int .i64 0, .int .i64 0, .slice none 0 0, .slice none 0 0, .slice none 0 0, .int .i64 0] HV2.out qHC rfl zAll ?_) | fail)
  exact bodyPost_ret (v := .tuple #[.agg zC, .int .i64 3]) (res_r Tryz.results11 rfl rfl (setRow_heap _ _ _ _ _ _ HV2.out) qHC) rfl ⟨rfl, below_setRow HB.out (by omega) _⟩
 ·have hm0 : ¬ most < 0 := by omega
  go_enter Tryz.func11, Tryz.ntmps11
  go_upto_region 1 with fail
  rw [HV.out]
  clear HV
  go_wp2_with (first | (refine wpList_store_row rfl 43 _ _ rfl (w.heap.size + 1) #[.int .i64 0, .int .i64 0, .int .i64 0, .int .i64 0, .int .i64 0, .int .i64 0, .int .i64 0, .int .i64 0, .int .i64 0, .int .i64 0, .int .i64 0, .int .i64 0, .int .i64 0, .int .i64 0, .int .i64 0, .int .i64 0, .bool false, .int .i64 0, .int .i64 0, .int .i64 0, .slice none 0 0, .slice none 0 0, .slice none 0 0, .int .i64 0] rfl rfl 43 #[.int .i64 0, .int .i64 0, .int .i64 0, .int .i64 0, .int .i64 0, .int .i64 0, .int .i64 0, .int .i64 0, .int .i64 0, .int .i64 0, .int .i64 0, .int .i64 0, .int .i64 0, .int .i64 0, .int .i64 0, .int .i64 0, .bool false, .int .i64 0, .int .i64 0, .int .i64 0, .slice none 0 0, .slice none 0 0, .slice none 0 0, .int .i64 0] HV2.out qHC rfl zAll ?_) | fail)
  exact bodyPost_ret (v := .tuple #[.agg zC, .int .i64 3]) (res_r Tryz.results11 rfl rfl (setRow_heap _ _ _ _ _ _ HV2.out) qHC) rfl ⟨rfl, below_setRow HB.out (by omega) _⟩
def RnPost (w : World) (n : Nat) (m : Ma) (sy : List Sy) (e : Ending) (w' : World) : Prop :=
 ∃ v', e = .returned (.tuple #[v', .int .i64 (runE n m)]) /\ Below w.heap.size w w' /\ ((runE n m ≠ 0 /\ v' = .agg zC) \/ (runE n m = 0 /\ MVb w.heap.size w' v' (runM n m) sy))
theorem run_res (m : Ma) (sy : List Sy) (v : Value) (n : Nat) (w : World) (hv : MV w v m sy) (hL : Laid w) (hR : Runs m 0) (hn : n <= 2000) (hsl : sy.length * 24 <= 140737488355328) (hres : ∀ M, Rch m M -> ResM M) :
  Calls Tryz.prog 11 #[v, .int .i64 (n : Int)] w (RnPost w n m sy) := by
 obtain ⟨ba, bc, s0, s2, ta, tc, rfl, hB, hT, hS⟩ := hv
 have hbl := hR.bl
 have htl := hR.tl
 obtain ⟨V, hV⟩ : ∃ V, V = (w.alloc (.cells (mC m ba bc (.slice s0 sy.length s2) ta tc) 43)).alloc (.cells zC 43) := ⟨_, rfl⟩
 have hV0 : Below w.heap.size w V := by rw [hV]; exact (qD _ _).trans ((qD _ _).mono (by simp))
 have hV1 : V.heap[w.heap.size]? = some (.cells (mC m ba bc (.slice s0 sy.length s2) ta tc) 43 (0, 0)) := by rw [hV, (qD _ _).block _ (by simp)]; exact qH _ _ _
 have hV2 : V.heap[w.heap.size + 1]? = some (.cells zC 43 (0, 0)) := by
  rw [hV]
  have := qH (w.alloc (.cells (mC m ba bc (.slice s0 sy.length s2) ta tc) 43)) zC 43
  simpa using this
 have hlt1 := (Array.getElem?_eq_some_iff.1 hV1).1
 have hlt2 := (Array.getElem?_eq_some_iff.1 hV2).1
 have HO : Hid (Calls Tryz.prog 17 #[.agg (mC m ba bc (.slice s0 sy.length s2) ta tc)] V fun e w' => ∃ gb gs gt, e = .returned (.agg (mC m (some ⟨gb, 0, none⟩) m.by'.length (.slice (some ⟨gs, 0, none⟩) sy.length sy.length) (some ⟨gt, 0, none⟩) m.told.length)) /\ w'.heap[w.heap.size]? = some (.cells (mC m ba bc (.slice s0 sy.length s2) ta tc) 43 (0, 0)) /\ RS w gb gs gt sy m.by'.length m (w'.setRow w.heap.size (mC m (some ⟨gb, 0, none⟩) m.by'.length (.slice (some ⟨gs, 0, none⟩) sy.length sy.length) (some ⟨gt, 0, none⟩) m.told.length))) := by
  refine (pown_any m ba bc sy s0 s2 ta tc V (hB.next hV0) (hS.below hV0 (Nat.le_refl _)) (hT.next hV0) (by omega) hsl (by omega)).mono ?_
  rintro e w' ⟨gb, gs, gt, rfl, hb, h1, h2, h3, h4, h5, h6, h7⟩
  have hbw := hV0.trans (hb.mono hV0.size)
  have hz := hV0.size
  have r0 := (hb.block _ hlt1).trans hV1
  have r1 := (hb.block _ hlt2).trans hV2
  refine ⟨gb, gs, gt, rfl, r0, ?_⟩
  have hold : ∀ {b : Nat} {o : Obj}, b ≠ w.heap.size -> w'.heap[b]? = some o -> (w'.setRow w.heap.size (mC m (some ⟨gb, 0, none⟩) m.by'.length (.slice (some ⟨gs, 0, none⟩) sy.length sy.length) (some ⟨gt, 0, none⟩) m.told.length)).heap[b]? = some o := fun {b o} hne hbo => by
   rw [setRow_other _ _ _ _ hne]
   exact hbo
  have hbX : Below w.heap.size w (w'.setRow w.heap.size (mC m (some ⟨gb, 0, none⟩) m.by'.length (.slice (some ⟨gs, 0, none⟩) sy.length sy.length) (some ⟨gt, 0, none⟩) m.told.length)) := below_setRow hbw (Nat.le_refl _) _
  have hMR := own_mr (w := V) (q := w.heap.size) (hL.below hbX hL.sz) (by have := hL.sz; omega) h1 h3 hL.sz (setRow_heap _ _ _ _ _ _ r0) (hold (by omega) h5) (hold (by omega) h7) (by unfold maxLen; omega)
  exact ⟨hbX, hold (by omega) r1, ⟨_, _, hMR⟩, hold (by omega) h6, by omega, h4, by omega, by omega⟩
 have HV := Lib.hid hV.symm
 have HV1 := Lib.hid hV1
 have HRES := Lib.hid hres
 clear hres
 have HR0 : Hid (qEH n m 0 m) := ⟨hR, rfl, rfl, rfl, .here⟩
 have hw1 := hL.sz
 clear hV hV0 hV1 hV2 hB hT hS hL hR hlt1 hlt2
 rw [zLit] at HV
 go_enter Tryz.func11, Tryz.ntmps11
 go_upto_region 1 with fail
 rw [HV.out]
 clear HV
 have hn0 : ¬ (n : Int) < 0 := by omega
 have hn1 : ¬ (2000 : Int) < (n : Int) := by omega
 go_wp2_with (first | (refine wpList_load_row rfl 43 _ rfl w.heap.size rfl 43 (mC m ba bc (.slice s0 sy.length s2) ta tc) (0, 0) _ HV1.out Tryz.underlying43 rfl (qBn _ _ _ _ _ _) ?_) | (go_at_call 17; refine HO.out.mono ?_; rintro e W1 ⟨gb, gs, gt, rfl, hr0, hrs⟩; have HX0 := Lib.hid hr0; have HRS := Lib.hid hrs; clear hr0 hrs) | (refine wpList_store_row rfl 43 _ _ rfl w.heap.size (mC m (some ⟨gb, 0, none⟩) m.by'.length (.slice (some ⟨gs, 0, none⟩) sy.length sy.length) (some ⟨gt, 0, none⟩) m.told.length) rfl rfl 43 (mC m ba bc (.slice s0 sy.length s2) ta tc) HX0.out (qBn _ _ _ _ _ _) rfl (mAll _ _ _ _ _ _ _ _) ?_; generalize World.setRow W1 w.heap.size _ = X at *) | fail)
 go_loopw [18] (fun i wr => ∃ k : Nat, k <= n /\ i = .int .i64 k /\ ∃ M, Hid (qEH n m k M) /\ Hid (RS w gb gs gt sy m.by'.length M wr)) (fun i _ => n - (intOf i).toNat)
 case atStart => exact ⟨0, Nat.zero_le _, rfl, m, HR0, HRS⟩
 case round =>
  obtain ⟨k, hk, rfl, M, HA, HS⟩ := hrel
  clear HRS HR0 HO HX0 HV1
  by_cases hlt : k < n
  ·have hk1 : (k : Int) < n := by omega
   have HST : Hid (Calls Tryz.prog 18 #[.pointer (some ⟨w.heap.size, 0, none⟩)] wr fun e W' => e = .returned (.tuple #[.bool (qAq M), .int .i64 (qAH M)]) /\ Below w.heap.size w W' /\ W'.heap[w.heap.size + 1]? = some (.cells zC 43 (0, 0)) /\ (qAH M = 0 -> RS w gb gs gt sy m.by'.length (qAJ M) W')) := by
    obtain ⟨ta1, tc1, hmr⟩ := HS.out.mr
    refine (qJz gt w.heap.size M gb m.by'.length (some ⟨gs, 0, none⟩) sy.length sy.length ta1 tc1 k wr hmr HA.out.rn (by omega) (by rw [HA.out.ln]; exact Nat.le_refl _) (HRES.out M HA.out.re)).mono ?_
    rintro e W' ⟨rfl, hkp, hm'⟩
    have h1 := HS.out.h1
    have h3 := HS.out.h3
    refine ⟨?_, HS.out.bel.trans (hkp.below (by omega) (Nat.le_refl _) (by omega)), ?_, fun h0 => HS.out.keep hkp (hm' h0)⟩
    ·by_cases h0 : qAH M = 0
     ·rw [if_pos h0]
     ·rw [if_neg h0, qLK h0]
    ·rw [hkp.block _ (by omega) (by omega) (by omega)]
     exact HS.out.res
   by_cases h0 : qAH M = 0
   ·by_cases hd : qAq M = true
    ·have HF := Lib.hid (HA.out.fin hlt h0 hd)
     rw [h0, hd] at HST
     rw [zLit] at HST
     clear h0 hd HA HS
     generalize qAJ M = M2 at *
     go_wp2_with (first | (go_at_call 18; refine HST.out.mono ?_; rintro e W2 ⟨rfl, hb2, hr2, hm2⟩; have hs2 := hm2 (by first | rfl | trivial); obtain ⟨ta2, tc2, hm3⟩ := hs2.mr; have HR2 := Lib.hid hr2; have HS2 := Lib.hid hs2; have HM3 := Lib.hid hm3; clear hb2 hr2 hm2 hs2 hm3) | (refine wpList_load_row rfl 43 _ rfl w.heap.size rfl 43 (mC M2 (some ⟨gb, 0, none⟩) m.by'.length (.slice (some ⟨gs, 0, none⟩) sy.length sy.length) ta2 tc2) (0, 0) _ HM3.out.b1 Tryz.underlying43 rfl (qBn _ _ _ _ _ _) ?_) | (refine wpList_store_row rfl 43 _ _ rfl (w.heap.size + 1) (mC M2 (some ⟨gb, 0, none⟩) m.by'.length (.slice (some ⟨gs, 0, none⟩) sy.length sy.length) ta2 tc2) rfl rfl 43 #[.int .i64 0, .int .i64 0, .int .i64 0, .int .i64 0, .int .i64 0, .int .i64 0, .int .i64 0, .int .i64 0, .int .i64 0, .int .i64 0, .int .i64 0, .int .i64 0, .int .i64 0, .int .i64 0, .int .i64 0, .int .i64 0, .bool false, .int .i64 0, .int .i64 0, .int .i64 0, .slice none 0 0, .slice none 0 0, .slice none 0 0, .int .i64 0] HR2.out (qBn _ _ _ _ _ _) rfl (mAll _ _ _ _ _ _ _ _) ?_) | fail)
     have hrow := HM3.out.row29 HR2.out (by omega) (by omega) (mC M2 (some ⟨gb, 0, none⟩) m.by'.length (.slice (some ⟨gs, 0, none⟩) sy.length sy.length) ta2 tc2)
     have hsy := setRow_other W2 (w.heap.size + 1) gs (mC M2 (some ⟨gb, 0, none⟩) m.by'.length (.slice (some ⟨gs, 0, none⟩) sy.length sy.length) ta2 tc2) (by have := HS2.out.h4; omega)
     exact bodyPost_ret (v := .tuple #[.agg (mC M2 (some ⟨gb, 0, none⟩) m.by'.length (.slice (some ⟨gs, 0, none⟩) sy.length sy.length) ta2 tc2), .int .i64 0]) (res_r Tryz.results11 rfl rfl (setRow_heap _ _ _ _ _ _ HR2.out) (qBn _ _ _ _ _ _)) rfl ⟨_, by rw [HF.out.1], below_setRow HS2.out.bel (by omega) _, Or.inr ⟨HF.out.1, by rw [HF.out.2]; exact hrow.mv (hsy.trans HS2.out.sym) (by have := HS2.out.h3; omega) (by have := HS2.out.h4; omega) (by have := HS2.out.h1; omega)⟩⟩
    ·have hd' : qAq M = false := by simpa using hd
     have HN := Lib.hid (HA.out.step hlt h0 hd')
     rw [h0, hd'] at HST
     clear h0 hd hd' HA HS
     generalize qAJ M = M2 at *
     go_wp2_with (first | (go_at_call 18; refine HST.out.mono ?_; rintro e W2 ⟨rfl, hb2, hr2, hm2⟩; have HS2 := Lib.hid (hm2 (by first | rfl | trivial)); clear hb2 hr2 hm2) | fail)
     exact ⟨⟨k + 1, by omega, by go_num, M2, HN, HS2⟩, by simp [intOf]; omega⟩
   ·have HF := Lib.hid (HA.out.bad hlt h0)
    have HN := Lib.hid h0
    have h0b : (qAH M != 0) = true := by simpa using h0
    rw [zLit] at HST
    clear h0 HA HS
    generalize qAH M = EE at *
    generalize qAq M = DD at *
    go_wp2_with (first | (go_at_call 18; refine HST.out.mono ?_; rintro e W2 ⟨rfl, hb2, hr2, hm2⟩; have HB2 := Lib.hid hb2; have HR2 := Lib.hid hr2; clear hb2 hr2 hm2) | (refine wpList_store_row rfl 43 _ _ rfl (w.heap.size + 1) #[.int .i64 0, .int .i64 0, .int .i64 0, .int .i64 0, .int .i64 0, .int .i64 0, .int .i64 0, .int .i64 0, .int .i64 0, .int .i64 0, .int .i64 0, .int .i64 0, .int .i64 0, .int .i64 0, .int .i64 0, .int .i64 0, .bool false, .int .i64 0, .int .i64 0, .int .i64 0, .slice none 0 0, .slice none 0 0, .slice none 0 0, .int .i64 0] rfl rfl 43 #[.int .i64 0, .int .i64 0, .int .i64 0, .int .i64 0, .int .i64 0, .int .i64 0, .int .i64 0, .int .i64 0, .int .i64 0, .int .i64 0, .int .i64 0, .int .i64 0, .int .i64 0, .int .i64 0, .int .i64 0, .int .i64 0, .bool false, .int .i64 0, .int .i64 0, .int .i64 0, .slice none 0 0, .slice none 0 0, .slice none 0 0, .int .i64 0] HR2.out qHC rfl zAll ?_) | fail)
    exact bodyPost_ret (v := .tuple #[.agg zC, .int .i64 EE]) (res_r Tryz.results11 rfl rfl (setRow_heap _ _ _ _ _ _ HR2.out) qHC) rfl ⟨_, by rw [HF.out], below_setRow HB2.out (by omega) _, Or.inl ⟨by rw [HF.out]; exact HN.out, rfl⟩⟩
  ·have hk1 : ¬ (k : Int) < n := by omega
   obtain rfl : k = n := by omega
   have HF := Lib.hid HA.out.out
   have HB2 := Lib.hid HS.out.bel
   have HR2 := Lib.hid HS.out.res
   rw [zLit] at HR2
   clear HA HS
   go_wp2_with (first | (refine wpList_store_row rfl 43 _ _ rfl (w.heap.size + 1) #[.int .i64 0, .int .i64 0, .int .i64 0, .int .i64 0, .int .i64 0, .int .i64 0, .int .i64 0, .int .i64 0, .int .i64 0, .int .i64 0, .int .i64 0, .int .i64 0, .int .i64 0, .int .i64 0, .int .i64 0, .int .i64 0, .bool false, .int .i64 0, .int .i64 0, .int .i64 0, .slice none 0 0, .slice none 0 0, .slice none 0 0, .int .i64 0] rfl rfl 43 #[.int .i64 0, .int .i64 0, .int .i64 0, .int .i64 0, .int .i64 0, .int .i64 0, .int .i64 0, .int .i64 0, .int .i64 0, .int .i64 0, .int .i64 0, .int .i64 0, .int .i64 0, .int .i64 0, .int .i64 0, .int .i64 0, .bool false, .int .i64 0, .int .i64 0, .int .i64 0, .slice none 0 0, .slice none 0 0, .slice none 0 0, .int .i64 0] HR2.out qHC rfl zAll ?_) | fail)
   exact bodyPost_ret (v := .tuple #[.agg zC, .int .i64 13]) (res_r Tryz.results11 rfl rfl (setRow_heap _ _ _ _ _ _ HR2.out) qHC) rfl ⟨_, by rw [HF.out], below_setRow HB2.out (by omega) _, Or.inl ⟨by rw [HF.out]; decide, rfl⟩⟩
structure I4 where
 op : Int
 n : Int
 m : Int
 imm : Int
def I4.enc (k : I4) : Int := encI k.op k.n k.m k.imm
def I4.ok (k : I4) : Prop := qV k.op k.n k.m k.imm = 0
def qCq (n : Int) : List UInt8 := [lowB (n / 256), lowB n]
def qAR (l : List I4) : List UInt8 := l.flatMap fun k => qCq k.enc
theorem qBV : ∀ l : List I4, (qAR l).length = 2 * l.length
 | [] => rfl
 | a :: l => by
   have := qBV l
   have e : qAR (a :: l) = qCq a.enc ++ qAR l := by simp [qAR]
   rw [e, List.length_append, this, List.length_cons]
   simp [qCq]
   omega
theorem qG1 (l : List I4) (i : Nat) (h : i < l.length) : qAR l = qAR (l.take i) ++ (qCq l[i].enc ++ qAR (l.drop (i + 1))) := by
 have e : l = l.take i ++ (l[i] :: l.drop (i + 1)) := by rw [List.getElem_cons_drop, List.take_append_drop]
 have e2 : qAR l = qAR (l.take i ++ (l[i] :: l.drop (i + 1))) := by rw [<- e]
 rw [e2]
 simp only [qAR, List.flatMap_append, List.flatMap_cons]
theorem qLF (a b : List UInt8) (x : Int) (h0 : 0 <= x) (h1 : x <= 65535) : qA5 (bsOf (a ++ (qCq x ++ b))) (a ++ (qCq x ++ b)).length (a.length : Int) 2 = x := by
 have hx : ∀ j : Nat, j < 2 -> qBp (bsOf (a ++ (qCq x ++ b))) (a ++ (qCq x ++ b)).length ((a.length : Int) + j) = (((qCq x).getD j 0).toNat : Int) := by
  intro j hj
  unfold qBp
  rw [if_pos ⟨by omega, by simp only [List.length_append, qCq, List.length_cons, List.length_nil]; omega⟩]
  have : ((a.length : Int) + j).toNat = a.length + j := by omega
  rw [this]
  unfold bsOf
  rw [List.getD_eq_getElem?_getD, List.getD_eq_getElem?_getD, List.getElem?_append_right (by omega), List.getElem?_append_left (by simp [qCq]; omega)]
  rw [show a.length + j - a.length = j by omega]
 have y0 := hx 0 (by omega)
 have y1 := hx 1 (by omega)
 simp only [qCq, List.getD_cons_zero, List.getD_cons_succ, qBD] at y0 y1
 simp only [qA5]
 rw [show qCq x = [lowB (x / 256), lowB x] from rfl, y0, y1]
 omega
theorem enc_in {k : I4} (h : k.ok) : 0 <= k.enc /\ k.enc <= 65535 := by
 have h2 := (turn1 h).2
 unfold decE at h2
 split at h2
 ·next hw =>
  unfold qR at hw
  simp at hw
  exact hw
 ·simp at h2
theorem qH4 {m : Ma} {l : List I4} {i : Nat} {a : Int} (hb : m.base = 0) (hc : m.by' = qAR l) (hi : i < l.length) (hok : l[i].ok) (ha : a = 2 * i) :
  qe m a = 0 /\ fV m a 0 = l[i].op /\ fV m a 1 = l[i].n /\ fV m a 2 = l[i].m /\ fV m a 3 = l[i].imm := by
 have hl := qBV l
 have hh : hasB m a 2 = true := by
  unfold hasB
  rw [hb, hc, hl]
  simp only [Bool.and_eq_true, decide_eq_true_eq]
  refine ⟨?_, ?_, ?_⟩ <;> omega
 have hr := enc_in hok
 have hw : qBa m a = l[i].enc := by
  unfold qBa
  rw [hb, hc, qG1 l i hi]
  have hlen : ((qAR (l.take i)).length : Int) = a - 0 := by rw [qBV, List.length_take]; omega
  rw [<- hlen]
  exact qLF _ _ _ hr.1 hr.2
 obtain ⟨t1, t2⟩ := turn1 hok
 unfold qe fV
 rw [if_pos hh, if_pos hh, if_pos hh, if_pos hh, if_pos hh, hw]
 refine ⟨t2, ?_, ?_, ?_, ?_⟩ <;> (unfold dV; show (match decV (encI l[i].op l[i].n l[i].m l[i].imm) with | .agg a => intOf (a.getD _ (.int .i64 0)) | _ => 0) = _; rw [t1]; rfl)
theorem ok1 : (⟨1, 0, 0, 0⟩ : I4).ok := by show qV 1 0 0 0 = 0; kernel_rfl
theorem ok16 : (⟨16, 1, 0, 0⟩ : I4).ok := by show qV 16 1 0 0 = 0; kernel_rfl
theorem ok27 : (⟨27, 0, 0, 1⟩ : I4).ok := by show qV 27 0 0 1 = 0; kernel_rfl
theorem ok27' : (⟨27, 0, 0, 0⟩ : I4).ok := by show qV 27 0 0 0 = 0; kernel_rfl
structure At (m : Ma) (l : List I4) (i : Nat) (x y : Int) (tt : Bool) (told : List Int) : Prop where
 base : m.base = 0
 by' : m.by' = qAR l
 pc : m.pc = 2 * i
 r0 : m.r 0 = x
 r1 : m.r 1 = y
 t : m.t = tt
 told : m.told = told
def Goes (m : Ma) : Prop := qAH m = 0 /\ qAq m = false /\ ResM m
section
variable {m : Ma} {l : List I4} {i : Nat} {x y : Int} {tt : Bool} {told : List Int}
theorem qFy (h : At m l i x y tt told) (hi : i < l.length) (hok : l[i].ok) (hl : qAi l[i].op = false) (hn : ¬ (l[i].op = 27 /\ l[i].imm = 0)) (hm : l[i].op < 23 \/ l[i].op = 27) (hr : Res l[i].op) :
  Goes m /\ qAJ m = { qT { m with st := m.st + 1 } l[i].op l[i].n l[i].m l[i].imm m.pc with pc := m.pc + 2 } := by
 obtain ⟨f0, f1, f2, f3, f4⟩ := qH4 h.base h.by' hi hok h.pc
 refine ⟨⟨?_, ?_, fun _ => by rw [f1]; exact hr, fun h => by rw [f1, hl] at h; cases h⟩, ?_⟩
 ·unfold qAH
  rw [f0, f1, f2, f3, f4, if_neg (by simp), if_neg hn, if_pos hl]
  unfold qu
  rw [if_neg (by omega)]
 ·unfold qAq
  rw [f0, f1, f4]
  simpa using hn
 ·unfold qAJ
  rw [f1, f2, f3, f4, if_neg hn, if_pos hl]
theorem go_nop (h : At m l i x y tt told) (hi : i < l.length) (hk : l[i] = ⟨1, 0, 0, 0⟩) : Goes m /\ At (qAJ m) l (i + 1) x y tt told := by
 obtain ⟨g, e⟩ := qFy h hi (by rw [hk]; exact ok1) (by rw [hk]; rfl) (by rw [hk]; decide) (by rw [hk]; decide) (by rw [hk]; exact .inl (show (1 : Int) <= 10 by decide))
 refine ⟨g, ?_⟩
 rw [e, hk]
 exact ⟨h.base, h.by', by show m.pc + 2 = _; rw [h.pc]; omega, h.r0, h.r1, h.t, h.told⟩
theorem go_mov0 (c : Int) (h : At m l i x y tt told) (hi : i < l.length) (hk : l[i] = ⟨3, 0, 0, c⟩) (hok : l[i].ok) : Goes m /\ At (qAJ m) l (i + 1) c y tt told := by
 obtain ⟨g, e⟩ := qFy h hi hok (by rw [hk]; rfl) (by rw [hk]; intro h; exact absurd h.1 (show (3 : Int) ≠ 27 by decide)) (by rw [hk]; left; show (3 : Int) < 23; decide) (by rw [hk]; exact .inl (show (3 : Int) <= 10 by decide))
 refine ⟨g, ?_⟩
 rw [e, hk]
 exact ⟨h.base, h.by', by show m.pc + 2 = _; rw [h.pc]; omega, rfl, h.r1, h.t, h.told⟩
theorem go_tell (h : At m l i x y tt told) (hi : i < l.length) (hk : l[i] = ⟨27, 0, 0, 1⟩) : Goes m /\ At (qAJ m) l (i + 1) x y tt (told ++ [x]) := by
 obtain ⟨g, e⟩ := qFy h hi (by rw [hk]; exact ok27) (by rw [hk]; rfl) (by rw [hk]; decide) (by rw [hk]; decide) (by rw [hk]; exact .inr (.inr (.inr (.inr rfl))))
 refine ⟨g, ?_⟩
 rw [e, hk]
 refine ⟨h.base, h.by', by show m.pc + 2 = _; rw [h.pc]; omega, h.r0, h.r1, h.t, ?_⟩
 show m.told ++ [m.r 0] = _
 rw [h.told, h.r0]
theorem at_end (h : At m l i x y tt told) (hi : i < l.length) (hk : l[i] = ⟨27, 0, 0, 0⟩) : qAH m = 0 /\ qAq m = true /\ (qAJ m).told = told /\ ResM m := by
 obtain ⟨f0, f1, f2, f3, f4⟩ := qH4 h.base h.by' hi (by rw [hk]; exact ok27') h.pc
 rw [hk] at f1 f2 f3 f4
 refine ⟨?_, ?_, ?_, fun _ => by rw [f1]; exact .inr (.inr (.inr (.inr rfl))), fun h => by rw [f1] at h; exact absurd h (by decide)⟩
 ·unfold qAH
  rw [f0, f1, f4, if_neg (by simp), if_pos ⟨rfl, rfl⟩]
 ·unfold qAq
  rw [f0, f1, f4]
  rfl
 ·unfold qAJ
  rw [f1, f4, if_pos ⟨rfl, rfl⟩]
  exact h.told
end
inductive Walks : Nat -> Ma -> Ma -> Prop where
 | here (m : Ma) : Walks 0 m m
 | step {n : Nat} {m k : Ma} (h : Goes m) (r : Walks n (qAJ m) k) : Walks (n + 1) m k
theorem Walks.trans {a b : Nat} {m k q : Ma} (h : Walks a m k) (r : Walks b k q) : Walks (a + b) m q := by
 induction h with
 | here => simpa using r
 | step h _ ih => rw [Nat.succ_add]; exact .step h (ih r)
theorem Walks.run {a n : Nat} {m k : Ma} (h : Walks a m k) : runE (a + n) m = runE n k /\ runM (a + n) m = runM n k := by
 induction h with
 | here => simp
 | step h _ ih =>
   rw [Nat.succ_add]
   simp only [runE, runM]
   rw [if_neg (by rw [h.1]; simp), if_neg (by rw [h.2.1]; simp), if_neg (by rw [h.1]; simp), if_neg (by rw [h.2.1]; simp)]
   exact ih
theorem Rch.first {m M : Ma} (h : Rch m M) : M = m \/ (qAH m = 0 /\ qAq m = false /\ Rch (qAJ m) M) := by
 induction h with
 | here => exact .inl rfl
 | step r h0 hd ih =>
   rcases ih with rfl | ⟨a, b, c⟩
   ·exact .inr ⟨h0, hd, .here⟩
   ·exact .inr ⟨a, b, .step c h0 hd⟩
theorem Walks.res {a : Nat} {m k : Ma} (h : Walks a m k) (hd : qAq k = true) (hk : ResM k) : ∀ M, Rch m M -> ResM M := by
 induction h with
 | here m =>
   intro M hM
   rcases hM.first with rfl | ⟨_, b, _⟩
   ·exact hk
   ·rw [hd] at b; cases b
 | step g _ ih =>
   intro M hM
   rcases hM.first with rfl | ⟨_, _, c⟩
   ·exact g.2.2
   ·exact ih hd hk M c
theorem at_of {l : List I4} {i : Nat} {k : I4} (h : l[i]? = some k) : ∃ hi : i < l.length, l[i] = k := List.getElem?_eq_some_iff.1 h
theorem ok_br (op d : Int) (hop : op = 17 \/ op = 18) (h0 : -128 <= d) (h1 : d <= 127) : (⟨op, 0, 0, d⟩ : I4).ok := by
 show qV op 0 0 d = 0
 rcases hop with rfl | rfl
 ·have a : qAB (qF 17) = -128 := rfl
  have b : qX (qF 17) = 127 := rfl
  unfold qV
  rw [if_pos (by decide), a, b, if_pos ⟨by decide, by decide, by simp [qR]; omega⟩]
 ·have a : qAB (qF 18) = -128 := rfl
  have b : qX (qF 18) = 127 := rfl
  unfold qV
  rw [if_pos (by decide), a, b, if_pos ⟨by decide, by decide, by simp [qR]; omega⟩]
theorem qIG (r d : Int) (hr : r = 0 \/ r = 1) (h0 : -128 <= d) (h1 : d <= 127) : (⟨3, r, 0, d⟩ : I4).ok := by
 show qV 3 r 0 d = 0
 have a : qAB (qF 3) = -128 := rfl
 have b : qX (qF 3) = 127 := rfl
 unfold qV
 rcases hr with rfl | rfl
 ·rw [if_pos (by decide), a, b, if_pos ⟨by decide, by decide, by simp [qR]; omega⟩]
 ·rw [if_pos (by decide), a, b, if_pos ⟨by decide, by decide, by simp [qR]; omega⟩]
def SI (base : Int) (im : List UInt8) (a : Int) (k : I4) : Prop := k.ok /\ ∃ A B, im = A ++ (qCq k.enc ++ B) /\ a = base + A.length /\ a % 2 = 0
theorem qFl {m : Ma} {a : Int} {k : I4} (h : SI m.base m.by' a k) : qe m a = 0 /\ fV m a 0 = k.op /\ fV m a 1 = k.n /\ fV m a 2 = k.m /\ fV m a 3 = k.imm := by
 obtain ⟨hok, A, B, hc, ha, h2⟩ := h
 have hh : hasB m a 2 = true := by
  unfold hasB
  rw [hc]
  simp only [Bool.and_eq_true, decide_eq_true_eq, List.length_append, qCq, List.length_cons, List.length_nil]
  refine ⟨?_, ?_, ?_⟩ <;> omega
 have hr := enc_in hok
 have hw : qBa m a = k.enc := by
  unfold qBa
  rw [hc]
  have hlen : a - m.base = (A.length : Int) := by omega
  rw [hlen]
  exact qLF _ _ _ hr.1 hr.2
 obtain ⟨t1, t2⟩ := turn1 hok
 unfold qe fV
 rw [if_pos hh, if_pos hh, if_pos hh, if_pos hh, if_pos hh, hw]
 refine ⟨t2, ?_, ?_, ?_, ?_⟩ <;> (unfold dV; show (match decV (encI k.op k.n k.m k.imm) with | .agg a => intOf (a.getD _ (.int .i64 0)) | _ => 0) = _; rw [t1]; rfl)
structure Ag (m : Ma) (base : Int) (im : List UInt8) (a : Int) (r : Nat -> Int) (tt : Bool) (told : List Int) (pr : Int) : Prop where
 base : m.base = base
 by' : m.by' = im
 pc : m.pc = a
 r : m.r = r
 t : m.t = tt
 told : m.told = told
 pr : m.pr = pr
def setF (r : Nat -> Int) (n : Nat) (v : Int) : Nat -> Int := fun k => if k = n then v else r k
section
variable {m : Ma} {base : Int} {im : List UInt8} {a : Int} {r : Nat -> Int} {tt : Bool} {told : List Int} {pr : Int}
theorem qCC {k : I4} (h : Ag m base im a r tt told pr) (hs : SI base im a k) (hl : qAi k.op = false) (hn : ¬ (k.op = 27 /\ k.imm = 0)) (he : qu { m with st := m.st + 1 } k.op k.n k.m k.imm a = 0) (hr : Res k.op) :
  Goes m /\ qAJ m = { qT { m with st := m.st + 1 } k.op k.n k.m k.imm a with pc := a + 2 } := by
 have hs' : SI m.base m.by' m.pc k := by rw [h.base, h.by', h.pc]; exact hs
 obtain ⟨f0, f1, f2, f3, f4⟩ := qFl hs'
 have hpc := h.pc
 refine ⟨⟨?_, ?_, fun _ => by rw [f1]; exact hr, fun h => by rw [f1, hl] at h; cases h⟩, ?_⟩
 ·unfold qAH
  rw [f0, f1, f2, f3, f4, if_neg (by simp), if_neg hn, if_pos hl, hpc]
  exact he
 ·unfold qAq
  rw [f0, f1, f4]
  simpa using hn
 ·unfold qAJ
  rw [f1, f2, f3, f4, if_neg hn, if_pos hl, hpc]
theorem low_e {m : Ma} {op n mm imm a : Int} (h : op < 23 \/ op = 27) : qu m op n mm imm a = 0 := by
 unfold qu
 rw [if_neg (by omega)]
theorem ag_mov (n : Nat) (c : Int) (h : Ag m base im a r tt told pr) (hs : SI base im a ⟨3, n, 0, c⟩) : Goes m /\ Ag (qAJ m) base im (a + 2) (setF r n c) tt told pr := by
 obtain ⟨g, e⟩ := qCC h hs rfl (by rintro ⟨h, _⟩; simp at h) (low_e (.inl (by show (3 : Int) < 23; decide))) (.inl (show (3 : Int) <= 10 by decide))
 refine ⟨g, ?_⟩
 rw [e]
 refine ⟨h.base, h.by', rfl, ?_, h.t, h.told, h.pr⟩
 rw [<- h.r]
 rfl
theorem ag_addi (n : Nat) (c v : Int) (h : Ag m base im a r tt told pr) (hs : SI base im a ⟨4, n, 0, c⟩) (hv : wrap32 (wrap32 (r n) + c) = v) : Goes m /\ Ag (qAJ m) base im (a + 2) (setF r n v) tt told pr := by
 obtain ⟨g, e⟩ := qCC h hs rfl (by rintro ⟨h, _⟩; simp at h) (low_e (.inl (by show (4 : Int) < 23; decide))) (.inl (show (4 : Int) <= 10 by decide))
 refine ⟨g, ?_⟩
 rw [e]
 refine ⟨h.base, h.by', rfl, ?_, h.t, h.told, h.pr⟩
 rw [<- hv, <- h.r]
 rfl
theorem ag_add (n k : Nat) (v : Int) (h : Ag m base im a r tt told pr) (hs : SI base im a ⟨6, n, k, 0⟩) (hv : wrap32 (wrap32 (r n) + wrap32 (r k)) = v) : Goes m /\ Ag (qAJ m) base im (a + 2) (setF r n v) tt told pr := by
 obtain ⟨g, e⟩ := qCC h hs rfl (by rintro ⟨h, _⟩; simp at h) (low_e (.inl (by show (6 : Int) < 23; decide))) (.inl (show (6 : Int) <= 10 by decide))
 refine ⟨g, ?_⟩
 rw [e]
 refine ⟨h.base, h.by', rfl, ?_, h.t, h.told, h.pr⟩
 rw [<- hv, <- h.r]
 rfl
theorem ag_dt (n : Nat) (v : Int) (h : Ag m base im a r tt told pr) (hs : SI base im a ⟨16, n, 0, 0⟩) (hv : wrap32 (wrap32 (r n) - 1) = v) : Goes m /\ Ag (qAJ m) base im (a + 2) (setF r n v) (v == 0) told pr := by
 obtain ⟨g, e⟩ := qCC h hs rfl (by rintro ⟨h, _⟩; simp at h) (low_e (.inl (by show (16 : Int) < 23; decide))) (.inr (.inl rfl))
 refine ⟨g, ?_⟩
 rw [e]
 refine ⟨h.base, h.by', rfl, ?_, ?_, h.told, h.pr⟩
 ·rw [<- hv, <- h.r]
  rfl
 ·rw [<- hv, <- h.r]
  rfl
theorem ag_tell (h : Ag m base im a r tt told pr) (hs : SI base im a ⟨27, 0, 0, 1⟩) : Goes m /\ Ag (qAJ m) base im (a + 2) r tt (told ++ [r 0]) pr := by
 obtain ⟨g, e⟩ := qCC h hs rfl (by rintro ⟨_, h⟩; simp at h) (low_e (.inr rfl)) (.inr (.inr (.inr (.inr rfl))))
 refine ⟨g, ?_⟩
 rw [e]
 refine ⟨h.base, h.by', rfl, h.r, h.t, ?_, h.pr⟩
 show m.told ++ [m.r 0] = _
 rw [h.told, h.r]
theorem ag_end (h : Ag m base im a r tt told pr) (hs : SI base im a ⟨27, 0, 0, 0⟩) : qAH m = 0 /\ qAq m = true /\ (qAJ m).told = told /\ ResM m := by
 have hs' : SI m.base m.by' m.pc ⟨27, 0, 0, 0⟩ := by rw [h.base, h.by', h.pc]; exact hs
 obtain ⟨f0, f1, f2, f3, f4⟩ := qFl hs'
 simp only at f1 f2 f3 f4
 refine ⟨?_, ?_, ?_, fun _ => by rw [f1]; exact .inr (.inr (.inr (.inr rfl))), fun h => by rw [f1] at h; exact absurd h (by decide)⟩
 ·unfold qAH
  rw [f0, f1, f4, if_neg (by simp), if_pos ⟨rfl, rfl⟩]
 ·unfold qAq
  rw [f0, f1, f4]
  rfl
 ·unfold qAJ
  rw [f1, f4, if_pos ⟨rfl, rfl⟩]
  exact h.told
theorem ag_bf (d b : Int) (h : Ag m base im a r tt told pr) (hs : SI base im a ⟨18, 0, 0, d⟩) (hb : b = a + 2 * d + 4) : Goes m /\ Ag (qAJ m) base im (if tt = false then b else a + 2) r tt told pr := by
 have hs' : SI m.base m.by' m.pc ⟨18, 0, 0, d⟩ := by rw [h.base, h.by', h.pc]; exact hs
 obtain ⟨f0, f1, f2, f3, f4⟩ := qFl hs'
 simp only at f1 f2 f3 f4
 have hnt : ¬ ((18 : Int) = 27 /\ d = 0) := by rintro ⟨h1, _⟩; exact absurd h1 (by decide)
 refine ⟨⟨?_, ?_, fun h => by rw [f1] at h; exact absurd h (by decide), fun _ hn => absurd (by rw [f1]; exact .inr rfl) hn⟩, ?_⟩
 ·unfold qAH
  rw [f0, f1, f4, if_neg (by simp), if_neg hnt, if_neg (by decide), if_pos (.inr rfl)]
 ·unfold qAq
  rw [f0, f1, f4]
  simp
 ·unfold qAJ
  rw [f1, f4, if_neg hnt, if_neg (by decide), if_pos (.inr rfl), h.t]
  refine ⟨h.base, h.by', ?_, h.r, rfl, h.told, h.pr⟩
  show (if tt = decide ((18 : Int) = 17) then toI 18 d m.pc else m.pc + 2) = _
  rw [h.pc, show decide ((18 : Int) = 17) = false from rfl]
  by_cases hh : tt = false
  ·rw [if_pos hh, if_pos hh]
   unfold toI
   rw [if_pos (.inl rfl)]
   omega
  ·rw [if_neg hh, if_neg hh]
theorem got_four (A B : List UInt8) (x : Int) : qA5 (bsOf (A ++ (be4 x ++ B))) (A ++ (be4 x ++ B)).length (A.length : Int) 4 = x % 4294967296 := by
 have hx : ∀ j : Nat, j < 4 -> qBp (bsOf (A ++ (be4 x ++ B))) (A ++ (be4 x ++ B)).length ((A.length : Int) + j) = (((be4 x).getD j 0).toNat : Int) := by
  intro j hj
  unfold qBp
  rw [if_pos ⟨by omega, by simp only [List.length_append, be4, List.length_cons, List.length_nil]; omega⟩]
  have : ((A.length : Int) + j).toNat = A.length + j := by omega
  rw [this]
  unfold bsOf
  rw [List.getD_eq_getElem?_getD, List.getD_eq_getElem?_getD, List.getElem?_append_right (by omega), List.getElem?_append_left (by simp [be4]; omega)]
  rw [show A.length + j - A.length = j by omega]
 have y0 := hx 0 (by omega)
 have y1 := hx 1 (by omega)
 have y2 := hx 2 (by omega)
 have y3 := hx 3 (by omega)
 simp only [be4, List.getD_cons_zero, List.getD_cons_succ, qBD] at y0 y1 y2 y3
 simp only [qA5]
 rw [show be4 x = [lowB (x / 16777216), lowB (x / 65536), lowB (x / 256), lowB x] from rfl, y0, y1, y2, y3]
 omega
theorem qGC {m : Ma} {A B : List UInt8} {x p : Int} (hc : m.by' = A ++ (be4 x ++ B)) (hp : p = m.base + A.length) (h4 : p % 4 = 0) : hasB m p 4 = true /\ qDA m p 4 = wrap32 x := by
 refine ⟨?_, ?_⟩
 ·unfold hasB
  rw [hc]
  simp only [Bool.and_eq_true, decide_eq_true_eq, List.length_append, be4, List.length_cons, List.length_nil]
  refine ⟨?_, ?_, ?_⟩ <;> omega
 ·unfold qDA
  rw [if_neg (by decide), hc, show p - m.base = (A.length : Int) by omega, got_four]
  unfold wrap32
  omega
theorem ag_load (n : Nat) (d p x v : Int) (A B : List UInt8) (h : Ag m base im a r tt told pr) (hs : SI base im a ⟨24, n, 0, d⟩) (hp : p = a - a % 4 + 4 + 4 * d) (hc : im = A ++ (be4 x ++ B)) (hA : p = base + A.length) (h4 : p % 4 = 0) (hv : wrap32 x = v) : Goes m /\ Ag (qAJ m) base im (a + 2) (setF r n v) tt told pr := by
 have hmem : qDT { m with st := m.st + 1 } 24 n 0 d a = p := by
  unfold qDT
  rw [if_neg (by decide), if_neg (by decide)]
  unfold toI
  rw [if_neg (by decide), if_pos (show qK 24 = 8 from rfl)]
  omega
 obtain ⟨l1, l2⟩ := qGC (m := { m with st := m.st + 1 }) (A := A) (B := B) (x := x) (p := p) (by show m.by' = _; rw [h.by']; exact hc) (by show p = m.base + _; rw [h.base]; exact hA) h4
 obtain ⟨g, e⟩ := qCC h hs rfl (by rintro ⟨h, _⟩; simp at h) (by
  unfold qu
  rw [if_neg]
  rintro ⟨_, _, h3⟩
  rw [hmem, show qDb 24 = 4 from rfl, l1] at h3
  cases h3) (.inr (.inr (.inl rfl)))
 refine ⟨g, ?_⟩
 have hpl : qT { m with st := m.st + 1 } 24 n 0 d a = setR { m with st := m.st + 1 } n (wrap32 x) := by
  unfold qT
  rw [hmem, show qDb 24 = 4 from rfl, l1, l2]
  rfl
 rw [e, hpl]
 refine ⟨h.base, h.by', rfl, ?_, h.t, h.told, h.pr⟩
 rw [<- hv, <- h.r]
 rfl
theorem ag_get (n k : Nat) (p x v : Int) (A B : List UInt8) (h : Ag m base im a r tt told pr) (hs : SI base im a ⟨26, n, k, 0⟩) (hp : p = wrap32 (r k)) (hc : im = A ++ (be4 x ++ B)) (hA : p = base + A.length) (h4 : p % 4 = 0) (hv : wrap32 x = v) : Goes m /\ Ag (qAJ m) base im (a + 2) (setF r n v) tt told pr := by
 have hmem : qDT { m with st := m.st + 1 } 26 n k 0 a = p := by
  unfold qDT
  rw [if_neg (by decide), if_pos rfl]
  show wrap32 (m.r (k : Int).toNat) = p
  rw [h.r, Int.toNat_natCast, hp]
 obtain ⟨l1, l2⟩ := qGC (m := { m with st := m.st + 1 }) (A := A) (B := B) (x := x) (p := p) (by show m.by' = _; rw [h.by']; exact hc) (by show p = m.base + _; rw [h.base]; exact hA) h4
 obtain ⟨g, e⟩ := qCC h hs rfl (by rintro ⟨h, _⟩; simp at h) (by
  unfold qu
  rw [if_neg]
  rintro ⟨_, _, h3⟩
  rw [hmem, show qDb 26 = 4 from rfl, l1] at h3
  cases h3) (.inr (.inr (.inr (.inl rfl))))
 refine ⟨g, ?_⟩
 have hpl : qT { m with st := m.st + 1 } 26 n k 0 a = setR { m with st := m.st + 1 } n (wrap32 x) := by
  unfold qT
  rw [hmem, show qDb 26 = 4 from rfl, l1, l2]
  rfl
 rw [e, hpl]
 refine ⟨h.base, h.by', rfl, ?_, h.t, h.told, h.pr⟩
 rw [<- hv, <- h.r]
 rfl
end
theorem si_of {l : List I4} {rest : List UInt8} {i : Nat} {k : I4} {base a : Int} (hk : l[i]? = some k) (hok : k.ok) (hb : base % 2 = 0) (ha : a = base + 2 * i) : SI base (qAR l ++ rest) a k := by
 obtain ⟨hi, he⟩ := at_of hk
 refine ⟨hok, qAR (l.take i), qAR (l.drop (i + 1)) ++ rest, ?_, ?_, by omega⟩
 ·rw [qG1 l i hi, he]
  simp [List.append_assoc]
 ·rw [qBV, List.length_take]
  omega
def sum4 (n : Nat) : List I4 := [⟨24, 4, 0, 4⟩, ⟨3, 0, 0, 0⟩, ⟨3, 1, 0, n⟩, ⟨26, 2, 4, 0⟩, ⟨6, 0, 2, 0⟩, ⟨4, 4, 0, 4⟩, ⟨16, 1, 0, 0⟩, ⟨18, 0, 0, -6⟩, ⟨27, 0, 0, 1⟩, ⟨27, 0, 0, 0⟩]
def words (l : List Int) : List UInt8 := l.flatMap be4
theorem qDC (l : List Int) : (words l).length = 4 * l.length := by
 induction l with
 | nil => rfl
 | cons a l ih =>
   have e : words (a :: l) = be4 a ++ words l := by simp [words]
   rw [e, List.length_append, ih, List.length_cons]
   simp [be4]
   omega
def qB4 (base : Int) (l : List Int) : List UInt8 := qAR (sum4 l.length) ++ (be4 (base + 24) ++ words l)
theorem qCe (n : Nat) : (qAR (sum4 n)).length = 20 := by rw [qBV]; rfl
def qBL : List Int -> Int
 | [] => 0
 | a :: l => a + qBL l
theorem qFv (l : List Int) (x : Int) : qBL (l ++ [x]) = qBL l + x := by
 induction l with
 | nil => simp [qBL]
 | cons a l ih => simp only [List.cons_append, qBL, ih]; omega
theorem add_bd (l : List Int) (h : ∀ x, x ∈ l -> 0 <= x /\ x <= 1000000) : 0 <= qBL l /\ qBL l <= 1000000 * l.length := by
 induction l with
 | nil => simp [qBL]
 | cons a l ih =>
   have h1 := h a (by simp)
   have h2 := ih fun x hx => h x (by simp [hx])
   simp only [qBL, List.length_cons]
   omega
theorem okLd : (⟨24, 4, 0, 4⟩ : I4).ok := by show qV 24 4 0 4 = 0; kernel_rfl
theorem okGt : (⟨26, 2, 4, 0⟩ : I4).ok := by show qV 26 2 4 0 = 0; kernel_rfl
theorem okAd : (⟨6, 0, 2, 0⟩ : I4).ok := by show qV 6 0 2 0 = 0; kernel_rfl
theorem okA4 : (⟨4, 4, 0, 4⟩ : I4).ok := by show qV 4 4 0 4 = 0; kernel_rfl
theorem okBf : (⟨18, 0, 0, -6⟩ : I4).ok := by show qV 18 0 0 (-6) = 0; kernel_rfl
theorem qId (base : Int) (l : List Int) (hb0 : 0 <= base) (hb1 : base <= 4000) (hb4 : base % 4 = 0) (hl : l.length <= 20) (hv : ∀ x, x ∈ l -> 0 <= x /\ x <= 1000000) {told : List Int} {pr : Int} :
  ∀ (rest dn : List Int) {m : Ma} {r : Nat -> Int} {tt : Bool}, l = dn ++ rest -> rest ≠ [] -> Ag m base (qB4 base l) (base + 6) r tt told pr -> r 0 = qBL dn -> r 1 = rest.length -> r 4 = base + 24 + 4 * dn.length ->
   ∃ k r' t', Walks (5 * rest.length) m k /\ Ag k base (qB4 base l) (base + 16) r' t' told pr /\ r' 0 = qBL l
 | [], dn, m, r, tt, _, h, _, _, _, _ => absurd rfl h
 | x :: rest, dn, m, r, tt, hd, _, h, h0, h1, h4 => by
   have hs : ∀ i k a, (sum4 l.length)[i]? = some k -> k.ok -> a = base + 2 * (i : Nat) -> SI base (qB4 base l) a k := fun i k a e1 e2 e3 => si_of e1 e2 (by omega) e3
   have hx := hv x (by rw [hd]; simp)
   have hdn := add_bd dn fun y hy => hv y (by rw [hd]; simp [hy])
   have hlen : dn.length + rest.length + 1 = l.length := by rw [hd]; simp; omega
   simp only [List.length_cons] at h1
   have him : qB4 base l = (qAR (sum4 l.length) ++ (be4 (base + 24) ++ words dn)) ++ (be4 x ++ words rest) := by
    unfold qB4
    have e : words l = words dn ++ (be4 x ++ words rest) := by rw [hd]; simp [words]
    rw [e]
    simp [List.append_assoc]
   have w32 : ∀ z : Int, 0 <= z -> z <= 2000000000 -> wrap32 z = z := fun z z0 z1 => by unfold wrap32; omega
   obtain ⟨g1, a1⟩ := ag_get 2 4 (base + 24 + 4 * dn.length) x x _ _ h (hs 3 _ _ rfl okGt (by omega)) (by rw [h4, w32 _ (by omega) (by omega)]) him (by rw [List.length_append, List.length_append, qCe, qDC]; simp [be4]; omega) (by omega) (w32 _ (by omega) (by omega))
   obtain ⟨g2, a2⟩ := ag_add 0 2 (qBL dn + x) a1 (hs 4 _ _ rfl okAd (by omega)) (by simp only [setF, reduceIte, h0, Nat.reduceEqDiff]; rw [w32 (qBL dn) (by omega) (by omega), w32 x (by omega) (by omega), w32 (qBL dn + x) (by omega) (by omega)])
   obtain ⟨g3, a3⟩ := ag_addi 4 4 (base + 24 + 4 * ((dn ++ [x]).length : Nat)) a2 (hs 5 _ _ rfl okA4 (by omega)) (by simp only [setF, reduceIte, h4, Nat.reduceEqDiff, List.length_append, List.length_singleton]; rw [w32 (base + 24 + 4 * dn.length) (by omega) (by omega), w32 (base + 24 + 4 * dn.length + 4) (by omega) (by omega)]; omega)
   obtain ⟨g4, a4⟩ := ag_dt 1 (rest.length : Int) a3 (hs 6 _ _ rfl ok16 (by omega)) (by simp only [setF, reduceIte, h1, Nat.reduceEqDiff]; rw [w32 ((rest.length + 1 : Nat) : Int) (by omega) (by omega), w32 (((rest.length + 1 : Nat) : Int) - 1) (by omega) (by omega)]; omega)
   obtain ⟨g5, a5⟩ := ag_bf (-6) (base + 6) a4 (hs 7 _ _ rfl okBf (by omega)) (by omega)
   have hw : Walks 5 m _ := .step g1 (.step g2 (.step g3 (.step g4 (.step g5 (.here _)))))
   by_cases hr : rest = []
   ·subst hr
    rw [if_neg (by simp)] at a5
    refine ⟨_, _, _, hw, by rw [show base + 16 = base + 6 + 2 + 2 + 2 + 2 + 2 by omega]; exact a5, ?_⟩
    rw [hd, qFv]
    simp [setF]
   ·have hn : ((rest.length : Int) == 0) = false := by
     have := List.length_pos_iff.2 hr
     simp
     exact hr
    rw [hn, if_pos rfl] at a5
    obtain ⟨k, r', t', b1, b2, b3⟩ := qId base l hb0 hb1 hb4 hl hv rest (dn ++ [x]) (by rw [hd]; simp) hr a5 (by rw [qFv]; simp [setF]) (by simp [setF]) (by simp [setF])
    refine ⟨k, r', t', ?_, b2, b3⟩
    have := hw.trans b1
    rw [show 5 + 5 * rest.length = 5 * (x :: rest).length by simp; omega] at this
    exact this
theorem sum_run (base : Int) (l : List Int) (hb0 : 0 <= base) (hb1 : base <= 4000) (hb4 : base % 4 = 0) (hl0 : 1 <= l.length) (hl : l.length <= 20) (hv : ∀ x, x ∈ l -> 0 <= x /\ x <= 1000000) :
  runE 2000 (newM base (qB4 base l)) = 0 /\ (runM 2000 (newM base (qB4 base l))).told = [qBL l] /\ ∀ M, Rch (newM base (qB4 base l)) M -> ResM M := by
 have hs : ∀ i k a, (sum4 l.length)[i]? = some k -> k.ok -> a = base + 2 * (i : Nat) -> SI base (qB4 base l) a k := fun i k a e1 e2 e3 => si_of e1 e2 (by omega) e3
 have w32 : ∀ z : Int, 0 <= z -> z <= 2000000000 -> wrap32 z = z := fun z z0 z1 => by unfold wrap32; omega
 have h : Ag (newM base (qB4 base l)) base (qB4 base l) base (fun _ => 0) false [] (-1) := ⟨rfl, rfl, rfl, rfl, rfl, rfl, rfl⟩
 obtain ⟨g1, a1⟩ := ag_load 4 4 (base + 20) (base + 24) (base + 24) (qAR (sum4 l.length)) (words l) h (hs 0 _ _ rfl okLd (by omega)) (by omega) rfl (by rw [qCe]; omega) (by omega) (w32 _ (by omega) (by omega))
 obtain ⟨g2, a2⟩ := ag_mov 0 0 a1 (hs 1 _ _ rfl (qIG 0 0 (.inl rfl) (by decide) (by decide)) (by omega))
 obtain ⟨g3, a3⟩ := ag_mov 1 l.length a2 (hs 2 _ _ rfl (qIG 1 l.length (.inr rfl) (by omega) (by omega)) (by omega))
 have hne : l ≠ [] := by rintro rfl; simp at hl0
 obtain ⟨k, r', t', b1, b2, b3⟩ := qId base l hb0 hb1 hb4 hl hv l [] rfl hne (by rw [show base + 6 = base + 2 + 2 + 2 by omega]; exact a3) (by simp [setF, qBL]) (by simp [setF]) (by simp [setF])
 obtain ⟨g4, a4⟩ := ag_tell b2 (hs 8 _ _ rfl ok27 (by omega))
 obtain ⟨e1, e2, e3, e4⟩ := ag_end a4 (hs 9 _ _ rfl ok27' (by omega))
 have hw : Walks (3 + (5 * l.length + 1)) (newM base (qB4 base l)) _ := Walks.trans (.step g1 (.step g2 (.step g3 (.here _)))) (b1.trans (.step g4 (.here _)))
 obtain ⟨n, hn⟩ : ∃ n, 2000 = 3 + (5 * l.length + 1) + (n + 1) := ⟨2000 - (3 + (5 * l.length + 1)) - 1, by omega⟩
 have hrun := hw.run (n := n + 1)
 rw [hn, hrun.1, hrun.2]
 refine ⟨?_, ?_, hw.res e2 e4⟩
 ·simp only [runE]
  rw [if_neg (by rw [e1]; simp), if_pos e2]
 ·simp only [runM]
  rw [if_neg (by rw [e1]; simp), if_pos e2, e3, b3]
  rfl
end Go.Proofs.YtfmljailbebfgaaGreatDoor.Si
