import Derived.Test.YtgjmbjahgcndnaaGreatDoorPut18
import Derived.Test.YtgjmbjahgcndnaaGreatDoorSnO
set_option maxHeartbeats 8000000
set_option maxRecDepth 100000
namespace Go.Proofs.YtgjmbjahgcndnaaGreatDoor.Si
open Go.RowKit Isa
theorem qBi {P : Program} {ops : Array Oper} {o : Oper} {a : Act} {w : World} {K : Act -> World -> Prop} {Q : Exit -> Act -> World -> Prop} {E : Prop} (hgd : o.guard = none) (hd : o.dst = none) (ty : TypeId) (p x : Operand) (ho : o.op = .store ty p x) (g : Nat) (c : Array Value) (hp : a.eval p = .pointer (some ⟨g, 0, none⟩)) (hx : a.eval x = .agg c) (t : TypeId) (old : Array Value) (hg : w.heap[g]? = some (.cells old t (0, 0))) (hs : (P.info? ty).map (·.size) = some c.size) (hsz : old.size = c.size) (h1 : c.all (·.oneCell') = true)
  (h : K a (w.setRow g c)) : if Region.wanted o (yielded ops a.tmps) = true then Oper.wp P o a w K Q else E := by
 have hw : Region.wanted o (yielded ops a.tmps) = true := by simp [Region.wanted, hgd]
 rw [if_pos hw]
 exact wp_store_row ty p x ho g c hp hx t old hg hs hsz h1 (by rw [hd]; exact h)
theorem pnew_any (base : Int) (l : List UInt8) (ba : Option Addr) (bc : Nat) (sy : List Sy) (s0 : Option Addr) (s2 : Nat) (w : World) (hB : BRd w ba l) (hS : qC2 w s0 sy.length (qT sy)) (hl : l.length * 1 <= 140737488355328) (hsl : sy.length * 24 <= 140737488355328) :
  Calls Tryz.prog 10 #[.agg #[.int .i64 base, .slice ba l.length bc, .slice s0 sy.length s2]] w fun e w' => ∃ gb gs, e = .returned (.agg (mC (newM base l) (some ⟨gb, 0, none⟩) l.length (.slice (some ⟨gs, 0, none⟩) sy.length sy.length) none 0)) /\ Below w.heap.size w w' /\ w.heap.size <= gb /\ w.heap.size <= gs /\ w'.heap[gb]? = some (.cells (qA7 l).toArray 5 (0, 0)) /\ w'.heap[gs]? = some (.cells (qT sy).toArray 81 (0, 0)) := by
 obtain ⟨V, hV⟩ : ∃ V, V = (w.alloc (.cells #[.int .i64 base, .slice ba l.length bc, .slice s0 sy.length s2] 34)).alloc (.cells #[.int .i64 0, .int .i64 0, .int .i64 0, .int .i64 0, .int .i64 0, .int .i64 0, .int .i64 0, .int .i64 0, .int .i64 0, .int .i64 0, .int .i64 0, .int .i64 0, .int .i64 0, .int .i64 0, .int .i64 0, .int .i64 0, .bool false, .int .i64 0, .int .i64 0, .int .i64 0, .slice none 0 0, .slice none 0 0, .slice none 0 0, .int .i64 0] 41) := ⟨_, rfl⟩
 have hV0 : Below w.heap.size w V := by rw [hV]; exact (qE _ _).trans ((qE _ _).mono (by simp))
 have hV1 : V.heap[w.heap.size]? = some (.cells #[.int .i64 base, .slice ba l.length bc, .slice s0 sy.length s2] 34 (0, 0)) := by rw [hV, (qE _ _).block _ (by simp)]; exact qK _ _ _
 have hV2 : V.heap[w.heap.size + 1]? = some (.cells #[.int .i64 0, .int .i64 0, .int .i64 0, .int .i64 0, .int .i64 0, .int .i64 0, .int .i64 0, .int .i64 0, .int .i64 0, .int .i64 0, .int .i64 0, .int .i64 0, .int .i64 0, .int .i64 0, .int .i64 0, .int .i64 0, .bool false, .int .i64 0, .int .i64 0, .int .i64 0, .slice none 0 0, .slice none 0 0, .slice none 0 0, .int .i64 0] 41 (0, 0)) := by
  rw [hV]
  have := qK (w.alloc (.cells #[.int .i64 base, .slice ba l.length bc, .slice s0 sy.length s2] 34)) #[.int .i64 0, .int .i64 0, .int .i64 0, .int .i64 0, .int .i64 0, .int .i64 0, .int .i64 0, .int .i64 0, .int .i64 0, .int .i64 0, .int .i64 0, .int .i64 0, .int .i64 0, .int .i64 0, .int .i64 0, .int .i64 0, .bool false, .int .i64 0, .int .i64 0, .int .i64 0, .slice none 0 0, .slice none 0 0, .slice none 0 0, .int .i64 0] 41
  simpa using this
 have HV := Lib.hid hV.symm
 have BX0 : Hid (V.drew.heap[w.heap.size]? = some (.cells #[.int .i64 base, .slice ba l.length bc, .slice s0 sy.length s2] 34 (0, 0))) := hV1
 have BZ0 : Hid (V.drew.heap[w.heap.size + 1]? = some (.cells #[.int .i64 0, .int .i64 0, .int .i64 0, .int .i64 0, .int .i64 0, .int .i64 0, .int .i64 0, .int .i64 0, .int .i64 0, .int .i64 0, .int .i64 0, .int .i64 0, .int .i64 0, .int .i64 0, .int .i64 0, .int .i64 0, .bool false, .int .i64 0, .int .i64 0, .int .i64 0, .slice none 0 0, .slice none 0 0, .slice none 0 0, .int .i64 0] 41 (0, 0))) := hV2
 have BE0 := Lib.hid hV0.drew
 have HIM : Hid (∀ X, Below w.heap.size w X -> Calls Tryz.prog 17 #[.agg #[.int .i64 base, .slice ba l.length bc, .slice s0 sy.length s2]] X fun e w' => ∃ gb gs, e = .returned (.agg #[.int .i64 base, .slice (some ⟨gb, 0, none⟩) l.length l.length, .slice (some ⟨gs, 0, none⟩) sy.length sy.length]) /\ Below X.heap.size X w' /\ X.heap.size <= gb /\ X.heap.size <= gs /\ w'.heap[gb]? = some (.cells (qA7 l).toArray 5 (0, 0)) /\ w'.heap[gs]? = some (.cells (qT sy).toArray 81 (0, 0))) := fun X hX => qEo base l ba bc sy s0 s2 X (hB.next hX) (hS.below hX (Nat.le_refl _)) hl hsl
 clear hV hV0 hV1 hV2 hB hS
 go_enter Tryz.func10, Tryz.ntmps10
 go_upto_region 1 with fail
 rw [HV.out]
 clear HV
 refine wp_region_noPanic ?_
 refine wp_region_held_drew (S := fun _ => True) (by kernel_rfl) trivial (fun hHeld => ?_)
 generalize V.drew = V0 at *
 refine tk 0 3 hHeld ?_
 simp only [sA, sB, sC]
 refine wpAnyH_ready (rs := [1, 2]) (by kernel_rfl) (by simp) ?_
 refine AllReadyH.cons rfl (fun K hK => ?_) (AllReadyH.cons rfl (fun K hK => ?_) AllReadyH.nil)
 ·have x := qA (i := 0) BX0.out rfl
  go_simp
  refine hK.out _ _ trivial (fun hHeld => ?_)
  clear hK K x
  refine wr1 2 fun K hK => ?_
  have x0 := qA (i := 0) BX0.out rfl
  have x1 := qA (i := 1) BX0.out rfl
  have x2 := qA (i := 2) BX0.out rfl
  go_simp
  refine hK.out _ _ trivial (fun hHeld => ?_)
  clear hK K x0 x1 x2
  refine wr1 3 fun K hK => ?_
  go_simp
  refine (HIM.out V0 BE0.out).mono ?_
  rintro e V1 ⟨gb, gs, rfl, hb, hgb, hgs, hrb, hrs⟩
  have BX1 := Lib.hid ((hb.block _ (Array.getElem?_eq_some_iff.1 BX0.out).1).trans BX0.out)
  have BZ1 := Lib.hid ((hb.block _ (Array.getElem?_eq_some_iff.1 BZ0.out).1).trans BZ0.out)
  have RB1 := Lib.hid hrb
  have RS1 := Lib.hid hrs
  have BE1 := Lib.hid (BE0.out.trans (hb.mono BE0.out.size))
  have hz0 := (Array.getElem?_eq_some_iff.1 BZ0.out).1
  refine hK.out _ _ trivial (fun hHeld => ?_)
  clear hK K hb hrb hrs BX0 BZ0 BE0
  refine wr1 4 fun K hK => ?_
  go_simp
  refine hK.out _ _ trivial (fun hHeld => ?_)
  clear hK K
  refine wr1 5 fun K hK => ?_
  refine qBi (by rfl) (by rfl) 41 (.tmp 2) (.tmp 7) (by rfl) (w.heap.size + 1) (mC (newM base l) (some ⟨gb, 0, none⟩) l.length (.slice (some ⟨gs, 0, none⟩) sy.length sy.length) none 0) (by rfl) (by rfl) 41 #[.int .i64 0, .int .i64 0, .int .i64 0, .int .i64 0, .int .i64 0, .int .i64 0, .int .i64 0, .int .i64 0, .int .i64 0, .int .i64 0, .int .i64 0, .int .i64 0, .int .i64 0, .int .i64 0, .int .i64 0, .int .i64 0, .bool false, .int .i64 0, .int .i64 0, .int .i64 0, .slice none 0 0, .slice none 0 0, .slice none 0 0, .int .i64 0] BZ1.out (qBg _ _ _ _ _ _) rfl (mAll _ _ _ _ _ _ _ _) ?_
  refine hK.out _ _ trivial (fun hHeld => ?_)
  clear hK K
  refine wpAnyH_done (by kernel_rfl) ?_ _
  refine NoPanic.normal ?_
  go_wp2
  refine bodyPost_ret (v := .agg (mC (newM base l) (some ⟨gb, 0, none⟩) l.length (.slice (some ⟨gs, 0, none⟩) sy.length sy.length) none 0)) (res_1 Tryz.results10 rfl (setRow_heap _ _ _ _ _ _ BZ1.out) (qBg _ _ _ _ _ _)) rfl ⟨gb, gs, rfl, below_setRow BE1.out (by omega) _, by omega, by omega, ?_, ?_⟩
  ·rw [setRow_other _ _ _ _ (by omega)]; exact RB1.out
  ·rw [setRow_other _ _ _ _ (by omega)]; exact RS1.out
 ·have x0 := qA (i := 0) BX0.out rfl
  have x1 := qA (i := 1) BX0.out rfl
  have x2 := qA (i := 2) BX0.out rfl
  go_simp
  refine hK.out _ _ trivial (fun hHeld => ?_)
  clear hK K x0 x1 x2
  refine wpAnyH_ready (rs := [1, 3]) (by kernel_rfl) (by simp) ?_
  refine AllReadyH.cons rfl (fun K hK => ?_) (AllReadyH.cons rfl (fun K hK => ?_) AllReadyH.nil)
  ·have x := qA (i := 0) BX0.out rfl
   go_simp
   refine hK.out _ _ trivial (fun hHeld => ?_)
   clear hK K x
   refine wr1 3 fun K hK => ?_
   go_simp
   refine (HIM.out V0 BE0.out).mono ?_
   rintro e V1 ⟨gb, gs, rfl, hb, hgb, hgs, hrb, hrs⟩
   have BX1 := Lib.hid ((hb.block _ (Array.getElem?_eq_some_iff.1 BX0.out).1).trans BX0.out)
   have BZ1 := Lib.hid ((hb.block _ (Array.getElem?_eq_some_iff.1 BZ0.out).1).trans BZ0.out)
   have RB1 := Lib.hid hrb
   have RS1 := Lib.hid hrs
   have BE1 := Lib.hid (BE0.out.trans (hb.mono BE0.out.size))
   have hz0 := (Array.getElem?_eq_some_iff.1 BZ0.out).1
   refine hK.out _ _ trivial (fun hHeld => ?_)
   clear hK K hb hrb hrs BX0 BZ0 BE0
   refine wr1 4 fun K hK => ?_
   go_simp
   refine hK.out _ _ trivial (fun hHeld => ?_)
   clear hK K
   refine wr1 5 fun K hK => ?_
   refine qBi (by rfl) (by rfl) 41 (.tmp 2) (.tmp 7) (by rfl) (w.heap.size + 1) (mC (newM base l) (some ⟨gb, 0, none⟩) l.length (.slice (some ⟨gs, 0, none⟩) sy.length sy.length) none 0) (by rfl) (by rfl) 41 #[.int .i64 0, .int .i64 0, .int .i64 0, .int .i64 0, .int .i64 0, .int .i64 0, .int .i64 0, .int .i64 0, .int .i64 0, .int .i64 0, .int .i64 0, .int .i64 0, .int .i64 0, .int .i64 0, .int .i64 0, .int .i64 0, .bool false, .int .i64 0, .int .i64 0, .int .i64 0, .slice none 0 0, .slice none 0 0, .slice none 0 0, .int .i64 0] BZ1.out (qBg _ _ _ _ _ _) rfl (mAll _ _ _ _ _ _ _ _) ?_
   refine hK.out _ _ trivial (fun hHeld => ?_)
   clear hK K
   refine wpAnyH_done (by kernel_rfl) ?_ _
   refine NoPanic.normal ?_
   go_wp2
   refine bodyPost_ret (v := .agg (mC (newM base l) (some ⟨gb, 0, none⟩) l.length (.slice (some ⟨gs, 0, none⟩) sy.length sy.length) none 0)) (res_1 Tryz.results10 rfl (setRow_heap _ _ _ _ _ _ BZ1.out) (qBg _ _ _ _ _ _)) rfl ⟨gb, gs, rfl, below_setRow BE1.out (by omega) _, by omega, by omega, ?_, ?_⟩
   ·rw [setRow_other _ _ _ _ (by omega)]; exact RB1.out
   ·rw [setRow_other _ _ _ _ (by omega)]; exact RS1.out
  ·go_simp
   refine (HIM.out V0 BE0.out).mono ?_
   rintro e V1 ⟨gb, gs, rfl, hb, hgb, hgs, hrb, hrs⟩
   have BX1 := Lib.hid ((hb.block _ (Array.getElem?_eq_some_iff.1 BX0.out).1).trans BX0.out)
   have BZ1 := Lib.hid ((hb.block _ (Array.getElem?_eq_some_iff.1 BZ0.out).1).trans BZ0.out)
   have RB1 := Lib.hid hrb
   have RS1 := Lib.hid hrs
   have BE1 := Lib.hid (BE0.out.trans (hb.mono BE0.out.size))
   have hz0 := (Array.getElem?_eq_some_iff.1 BZ0.out).1
   refine hK.out _ _ trivial (fun hHeld => ?_)
   clear hK K hb hrb hrs BX0 BZ0 BE0
   refine wr1 1 fun K hK => ?_
   have x := qA (i := 0) BX1.out rfl
   go_simp
   refine hK.out _ _ trivial (fun hHeld => ?_)
   clear hK K x
   refine wr1 4 fun K hK => ?_
   go_simp
   refine hK.out _ _ trivial (fun hHeld => ?_)
   clear hK K
   refine wr1 5 fun K hK => ?_
   refine qBi (by rfl) (by rfl) 41 (.tmp 2) (.tmp 7) (by rfl) (w.heap.size + 1) (mC (newM base l) (some ⟨gb, 0, none⟩) l.length (.slice (some ⟨gs, 0, none⟩) sy.length sy.length) none 0) (by rfl) (by rfl) 41 #[.int .i64 0, .int .i64 0, .int .i64 0, .int .i64 0, .int .i64 0, .int .i64 0, .int .i64 0, .int .i64 0, .int .i64 0, .int .i64 0, .int .i64 0, .int .i64 0, .int .i64 0, .int .i64 0, .int .i64 0, .int .i64 0, .bool false, .int .i64 0, .int .i64 0, .int .i64 0, .slice none 0 0, .slice none 0 0, .slice none 0 0, .int .i64 0] BZ1.out (qBg _ _ _ _ _ _) rfl (mAll _ _ _ _ _ _ _ _) ?_
   refine hK.out _ _ trivial (fun hHeld => ?_)
   clear hK K
   refine wpAnyH_done (by kernel_rfl) ?_ _
   refine NoPanic.normal ?_
   go_wp2
   refine bodyPost_ret (v := .agg (mC (newM base l) (some ⟨gb, 0, none⟩) l.length (.slice (some ⟨gs, 0, none⟩) sy.length sy.length) none 0)) (res_1 Tryz.results10 rfl (setRow_heap _ _ _ _ _ _ BZ1.out) (qBg _ _ _ _ _ _)) rfl ⟨gb, gs, rfl, below_setRow BE1.out (by omega) _, by omega, by omega, ?_, ?_⟩
   ·rw [setRow_other _ _ _ _ (by omega)]; exact RB1.out
   ·rw [setRow_other _ _ _ _ (by omega)]; exact RS1.out
def MV (w : World) (v : Value) (m : Ma) (sy : List Sy) : Prop := ∃ ba bc s0 s2 ta tc, v = .agg (mC m ba bc (.slice s0 sy.length s2) ta tc) /\ BRd w ba m.by' /\ TRd w ta m.told /\ qC2 w s0 sy.length (qT sy)
def MVb (B : Nat) (w : World) (v : Value) (m : Ma) (sy : List Sy) : Prop := ∃ ba bc s0 s2 ta tc, v = .agg (mC m ba bc (.slice s0 sy.length s2) ta tc) /\ BRd w ba m.by' /\ TRd w ta m.told /\ qC2 w s0 sy.length (qT sy) /\ (∀ a, ba = some a -> 0 < m.by'.length -> B <= a.block) /\ (∀ a, ta = some a -> 0 < m.told.length -> B <= a.block) /\ (∀ a, s0 = some a -> 0 < sy.length -> B <= a.block)
theorem MVb.mv {B : Nat} {w : World} {v : Value} {m : Ma} {sy : List Sy} (h : MVb B w v m sy) : MV w v m sy := by
 obtain ⟨ba, bc, s0, s2, ta, tc, e, h1, h2, h3, _⟩ := h
 exact ⟨ba, bc, s0, s2, ta, tc, e, h1, h2, h3⟩
theorem qKq {m : Ma} (h : qAN m ≠ 0) : qA3 m = false := by
 unfold qA3
 simp only [decide_eq_false_iff_not]
 rintro ⟨h1, h2⟩
 exact h (stepZ h1 h2).1
theorem MR.row29 {K g : Nat} {m : Ma} {gb bc : Nat} {sv : Value} {ta : Option Addr} {tc : Nat} {W : World} (h : MR K g m gb bc sv ta tc W) {r : Nat} {c0 : Array Value} (hr : W.heap[r]? = some (.cells c0 41 (0, 0))) (hne : g ≠ r) (h1r : max 1 4 < r) (c : Array Value) : MR K g m gb bc sv ta tc (W.setRow r c) := by
 have hgb : gb ≠ r := by
  intro e
  have h1 := h.bb
  rw [e, hr] at h1
  injection h1 with h1
  injection h1 with _ h2
  exact absurd h2 (by decide)
 refine ⟨?_, ?_, ?_, ?_, ?_, h.k2, h.g2, h.gb2⟩
 ·rw [setRow_other W r g _ hne]; exact h.b1
 ·rw [setRow_other W r gb _ hgb]; exact h.bb
 ·exact h.tt.kept (qLS W r c) (qEA h.tt hr (by decide))
 ·exact h.la.below (B := max 1 4 + 1) ⟨rfl, rfl, rfl, by simp [World.setRow], fun q hq => setRow_other W r q c (by omega)⟩ (by omega)
 ·simpa [World.setRow] using h.kz
theorem MR.mv {K g : Nat} {m : Ma} {gb bc : Nat} {gs : Nat} {sy : List Sy} {ta : Option Addr} {tc : Nat} {W : World} (h : MR K g m gb bc (.slice (some ⟨gs, 0, none⟩) sy.length sy.length) ta tc W) (hs : W.heap[gs]? = some (.cells (qT sy).toArray 81 (0, 0))) {B : Nat} (h1 : B <= gb) (h2 : B <= gs) (h3 : B <= K) : MVb B W (.agg (mC m (some ⟨gb, 0, none⟩) bc (.slice (some ⟨gs, 0, none⟩) sy.length sy.length) ta tc)) m sy := by
 refine ⟨_, _, _, _, _, _, rfl, h.brd, h.trd, qDc hs (qCY sy), fun a e _ => ?_, fun a e h0 => ?_, fun a e _ => ?_⟩
 ·cases e; exact h1
 ·subst e
  exact Nat.le_trans h3 (h.tt.lt a.block rfl).1
 ·cases e; exact h2
theorem own_mr {w X : World} {m : Ma} {q gb gs gt : Nat} {sy : List Sy} (hL : Laid X) (hz : max 1 4 < w.heap.size) (hgb : w.heap.size <= gb) (hgt : gb < gt) (hq : max 1 4 < q) (h1 : X.heap[q]? = some (.cells (mC m (some ⟨gb, 0, none⟩) m.by'.length (.slice (some ⟨gs, 0, none⟩) sy.length sy.length) (some ⟨gt, 0, none⟩) m.told.length) 41 (0, 0))) (h2 : X.heap[gb]? = some (.cells (qA7 m.by').toArray 5 (0, 0))) (h3 : X.heap[gt]? = some (.cells (qAk m.told).toArray 3 (0, 0))) (ht : m.told.length <= maxLen) :
  MR gt q m gb m.by'.length (.slice (some ⟨gs, 0, none⟩) sy.length sy.length) (some ⟨gt, 0, none⟩) m.told.length X := by
 refine ⟨h1, h2, ⟨qEi _, Or.inr ⟨gt, m.told.length, (qAk m.told).toArray, rfl, Nat.le_refl _, h3, Nat.le_refl _, ht, by simp [qAk], ?_⟩⟩, hL, Nat.le_of_lt (Array.getElem?_eq_some_iff.1 h3).1, by omega, hq, by omega⟩
 rw [Nat.mul_one]
 have : (qAk m.told).length = m.told.length := by simp [qAk]
 rw [<- this]
 simp
theorem qGV {m : Ma} (h : qAN m = 0) : qt m m.pc = 0 := by
 unfold qAN at h
 by_cases he : qt m m.pc = 0
 ·exact he
 ·rw [if_pos he] at h
  exact absurd h he
theorem step_len {m : Ma} : (qAU m).by'.length = m.by'.length := by
 unfold qAU
 have pp : (preM m).by' = m.by' := by unfold preM; split <;> rfl
 split
 ·rfl
 ·split
  ·exact (qCa { m with st := m.st + 1 } _ _ _ _ _).2.1
  ·split
   ·rfl
   ·show (qAB (preM m) _ _ _ _ _).by'.length = _
    rw [(qCa (preM m) _ _ _ _ _).2.1, pp]
inductive Rch (m : Ma) : Ma -> Prop where
 | here : Rch m m
 | step {M : Ma} (h : Rch m M) (h0 : qAN M = 0) (hd : qA3 M = false) : Rch m (qAU M)
structure qD9 (n : Nat) (m : Ma) (k : Nat) (M : Ma) : Prop where
 rn : Runs M k
 ee : runE n m = runE (n - k) M
 mm : runM n m = runM (n - k) M
 ln : M.by'.length = m.by'.length
 re : Rch m M
theorem qD9.step {n : Nat} {m : Ma} {k : Nat} {M : Ma} (h : qD9 n m k M) (hk : k < n) (h0 : qAN M = 0) (hd : qA3 M = false) : qD9 n m (k + 1) (qAU M) := by
 have e : n - k = (n - (k + 1)) + 1 := by omega
 refine ⟨(qKZ h.rn (qGV h0)).1, ?_, ?_, by rw [step_len, h.ln], .step h.re h0 hd⟩
 ·rw [h.ee, e, runE, if_neg (by simp [h0]), if_neg (by simp [hd])]
 ·rw [h.mm, e, runM, if_neg (by simp [h0]), if_neg (by simp [hd])]
theorem qD9.bad {n : Nat} {m : Ma} {k : Nat} {M : Ma} (h : qD9 n m k M) (hk : k < n) (h0 : qAN M ≠ 0) : runE n m = qAN M := by
 have e : n - k = (n - (k + 1)) + 1 := by omega
 rw [h.ee, e, runE, if_pos h0]
theorem qD9.fin {n : Nat} {m : Ma} {k : Nat} {M : Ma} (h : qD9 n m k M) (hk : k < n) (h0 : qAN M = 0) (hd : qA3 M = true) : runE n m = 0 /\ runM n m = qAU M := by
 have e : n - k = (n - (k + 1)) + 1 := by omega
 refine ⟨?_, ?_⟩
 ·rw [h.ee, e, runE, if_neg (by simp [h0]), if_pos hd]
 ·rw [h.mm, e, runM, if_neg (by simp [h0]), if_pos hd]
theorem qD9.out {n : Nat} {m : Ma} {M : Ma} (h : qD9 n m n M) : runE n m = 13 := by
 rw [h.ee, Nat.sub_self]
 rfl
structure RS (w : World) (gb gs gt : Nat) (sy : List Sy) (len : Nat) (M : Ma) (W : World) : Prop where
 bel : Below w.heap.size w W
 res : W.heap[w.heap.size + 1]? = some (.cells zC 41 (0, 0))
 mr : ∃ ta tc, MR gt w.heap.size M gb len (.slice (some ⟨gs, 0, none⟩) sy.length sy.length) ta tc W
 sym : W.heap[gs]? = some (.cells (qT sy).toArray 81 (0, 0))
 h1 : w.heap.size + 1 < gt
 h2 : gs < gt
 h3 : w.heap.size + 1 < gb
 h4 : w.heap.size + 1 < gs
theorem RS.keep {w : World} {gb gs gt : Nat} {sy : List Sy} {len : Nat} {M : Ma} {W : World} (h : RS w gb gs gt sy len M W) {W' : World} {M' : Ma} (hk : Kept gt w.heap.size gb W W') (hm : ∃ ta tc, MR gt w.heap.size M' gb len (.slice (some ⟨gs, 0, none⟩) sy.length sy.length) ta tc W') : RS w gb gs gt sy len M' W' := by
 have hgs : gs ≠ gb := by
  intro e
  obtain ⟨ta, tc, hmr⟩ := h.mr
  have h1 := h.sym
  rw [e, hmr.bb] at h1
  injection h1 with h1
  injection h1 with _ h2
  exact absurd h2 (by decide)
 have hh1 := h.h1
 have hh3 := h.h3
 have hh4 := h.h4
 exact ⟨h.bel.trans (hk.below (by omega) (Nat.le_refl _) (by omega)), by rw [hk.block _ (by omega) (by omega) (by omega)]; exact h.res, hm, by rw [hk.block _ h.h2 (by omega) hgs]; exact h.sym, h.h1, h.h2, h.h3, h.h4⟩
theorem res_r {fn : Func} (hr : fn.results = #[.cell 4 41, .tmp 5]) {T : Array Value} {W : World} {g : Nat} {e : Int} {c : Array Value} (h2 : T.getD 4 undef = .pointer (some ⟨g, 0, none⟩)) (h3 : T.getD 5 undef = .int .i64 e) (hg : W.heap[g]? = some (.cells c 41 (0, 0))) (hs : (Tryz.prog.info? 41).map (·.size) = some c.size) :
  (results fn T).run Tryz.prog W = .ok (.tuple #[.agg c, .int .i64 e]) W := by
 have hl := run_loadVar_row (P := Tryz.prog) W g 41 41 c (0, 0) _ hg Tryz.underlying41 rfl hs
 have h2' : T[4]?.getD undef = .pointer (some ⟨g, 0, none⟩) := by simpa using h2
 have h3' : T[5]?.getD undef = .int .i64 e := by simpa using h3
 simp [results, hr, h2', h3', asAddr, hl]
theorem run_out (m : Ma) (sy : List Sy) (v : Value) (most : Int) (w : World) (hv : MV w v m sy) (hm : most < 0 \/ 2000 < most) :
  Calls Tryz.prog 9 #[v, .int .i64 most] w fun e w' => e = .returned (.tuple #[.agg zC, .int .i64 3]) /\ Below w.heap.size w w' := by
 obtain ⟨ba, bc, s0, s2, ta, tc, rfl, hB, hT, hS⟩ := hv
 obtain ⟨V, hV⟩ : ∃ V, V = (w.alloc (.cells (mC m ba bc (.slice s0 sy.length s2) ta tc) 41)).alloc (.cells zC 41) := ⟨_, rfl⟩
 have hV0 : Below w.heap.size w V := by rw [hV]; exact (qE _ _).trans ((qE _ _).mono (by simp))
 have hV2 : V.heap[w.heap.size + 1]? = some (.cells zC 41 (0, 0)) := by
  rw [hV]
  have := qK (w.alloc (.cells (mC m ba bc (.slice s0 sy.length s2) ta tc) 41)) zC 41
  simpa using this
 have HV := Lib.hid hV.symm
 have HV2 := Lib.hid hV2
 have HB := Lib.hid hV0
 clear hV hV0 hV2 hB hT hS
 rw [zLit] at HV HV2
 rcases hm with hm | hm
 ·go_enter Tryz.func9, Tryz.ntmps9
  go_upto_region 1 with fail
  rw [HV.out]
  clear HV
  go_wp2_with (first | (refine wpList_store_row rfl 41 _ _ rfl (w.heap.size + 1) #[.int .i64 0, .int .i64 0, .int .i64 0, .int .i64 0, .int .i64 0, .int .i64 0, .int .i64 0, .int .i64 0, .int .i64 0, .int .i64 0, .int .i64 0, .int .i64 0, .int .i64 0, .int .i64 0, .int .i64 0, .int .i64 0, .bool false, .int .i64 0, .int .i64 0, .int .i64 0, .slice none 0 0, .slice none 0 0, .slice none 0 0, .int .i64 0] rfl rfl 41 #[.int .i64 0, .int .i64 0, .int .i64 0, .int .i64 0, .int .i64 0, .int .i64 0, .int .i64 0, .int .i64 0, .int .i64 0, .int .i64 0, .int .i64 0, .int .i64 0, .int .i64 0, .int .i64 0, .int .i64 0, .int .i64 0, .bool false, .int .i64 0, .int .i64 0, .int .i64 0, .slice none 0 0, .slice none 0 0, .slice none 0 0, .int .i64 0] HV2.out qGP rfl zAll ?_) | fail)
  exact bodyPost_ret (v := .tuple #[.agg zC, .int .i64 3]) (res_r Tryz.results9 rfl rfl (setRow_heap _ _ _ _ _ _ HV2.out) qGP) rfl ⟨rfl, below_setRow HB.out (by omega) _⟩
 ·have hm0 : ¬ most < 0 := by omega
  go_enter Tryz.func9, Tryz.ntmps9
  go_upto_region 1 with fail
  rw [HV.out]
  clear HV
  go_wp2_with (first | (refine wpList_store_row rfl 41 _ _ rfl (w.heap.size + 1) #[.int .i64 0, .int .i64 0, .int .i64 0, .int .i64 0, .int .i64 0, .int .i64 0, .int .i64 0, .int .i64 0, .int .i64 0, .int .i64 0, .int .i64 0, .int .i64 0, .int .i64 0, .int .i64 0, .int .i64 0, .int .i64 0, .bool false, .int .i64 0, .int .i64 0, .int .i64 0, .slice none 0 0, .slice none 0 0, .slice none 0 0, .int .i64 0] rfl rfl 41 #[.int .i64 0, .int .i64 0, .int .i64 0, .int .i64 0, .int .i64 0, .int .i64 0, .int .i64 0, .int .i64 0, .int .i64 0, .int .i64 0, .int .i64 0, .int .i64 0, .int .i64 0, .int .i64 0, .int .i64 0, .int .i64 0, .bool false, .int .i64 0, .int .i64 0, .int .i64 0, .slice none 0 0, .slice none 0 0, .slice none 0 0, .int .i64 0] HV2.out qGP rfl zAll ?_) | fail)
  exact bodyPost_ret (v := .tuple #[.agg zC, .int .i64 3]) (res_r Tryz.results9 rfl rfl (setRow_heap _ _ _ _ _ _ HV2.out) qGP) rfl ⟨rfl, below_setRow HB.out (by omega) _⟩
def RnPost (w : World) (n : Nat) (m : Ma) (sy : List Sy) (e : Ending) (w' : World) : Prop :=
 ∃ v', e = .returned (.tuple #[v', .int .i64 (runE n m)]) /\ Below w.heap.size w w' /\ ((runE n m ≠ 0 /\ v' = .agg zC) \/ (runE n m = 0 /\ MVb w.heap.size w' v' (runM n m) sy))
theorem run_res (m : Ma) (sy : List Sy) (v : Value) (n : Nat) (w : World) (hv : MV w v m sy) (hL : Laid w) (hR : Runs m 0) (hn : n <= 2000) (hsl : sy.length * 24 <= 140737488355328) (hres : ∀ M, Rch m M -> ResM M) :
  Calls Tryz.prog 9 #[v, .int .i64 (n : Int)] w (RnPost w n m sy) := by
 obtain ⟨ba, bc, s0, s2, ta, tc, rfl, hB, hT, hS⟩ := hv
 have hbl := hR.bl
 have htl := hR.tl
 obtain ⟨V, hV⟩ : ∃ V, V = (w.alloc (.cells (mC m ba bc (.slice s0 sy.length s2) ta tc) 41)).alloc (.cells zC 41) := ⟨_, rfl⟩
 have hV0 : Below w.heap.size w V := by rw [hV]; exact (qE _ _).trans ((qE _ _).mono (by simp))
 have hV1 : V.heap[w.heap.size]? = some (.cells (mC m ba bc (.slice s0 sy.length s2) ta tc) 41 (0, 0)) := by rw [hV, (qE _ _).block _ (by simp)]; exact qK _ _ _
 have hV2 : V.heap[w.heap.size + 1]? = some (.cells zC 41 (0, 0)) := by
  rw [hV]
  have := qK (w.alloc (.cells (mC m ba bc (.slice s0 sy.length s2) ta tc) 41)) zC 41
  simpa using this
 have hlt1 := (Array.getElem?_eq_some_iff.1 hV1).1
 have hlt2 := (Array.getElem?_eq_some_iff.1 hV2).1
 have HO : Hid (Calls Tryz.prog 15 #[.agg (mC m ba bc (.slice s0 sy.length s2) ta tc)] V fun e w' => ∃ gb gs gt, e = .returned (.agg (mC m (some ⟨gb, 0, none⟩) m.by'.length (.slice (some ⟨gs, 0, none⟩) sy.length sy.length) (some ⟨gt, 0, none⟩) m.told.length)) /\ w'.heap[w.heap.size]? = some (.cells (mC m ba bc (.slice s0 sy.length s2) ta tc) 41 (0, 0)) /\ RS w gb gs gt sy m.by'.length m (w'.setRow w.heap.size (mC m (some ⟨gb, 0, none⟩) m.by'.length (.slice (some ⟨gs, 0, none⟩) sy.length sy.length) (some ⟨gt, 0, none⟩) m.told.length))) := by
  refine (pown_any m ba bc sy s0 s2 ta tc V (hB.next hV0) (hS.below hV0 (Nat.le_refl _)) (hT.next hV0) (by omega) hsl (by omega)).mono ?_
  rintro e w' ⟨gb, gs, gt, rfl, hb, h1, h2, h3, h4, h5, h6, h7⟩
  have hbw := hV0.trans (hb.mono hV0.size)
  have hz := hV0.size
  have r0 := (hb.block _ hlt1).trans hV1
  have r1 := (hb.block _ hlt2).trans hV2
  refine ⟨gb, gs, gt, rfl, r0, ?_⟩
  have hold : ∀ {b : Nat} {o : Obj}, b ≠ w.heap.size -> w'.heap[b]? = some o -> (w'.setRow w.heap.size (mC m (some ⟨gb, 0, none⟩) m.by'.length (.slice (some ⟨gs, 0, none⟩) sy.length sy.length) (some ⟨gt, 0, none⟩) m.told.length)).heap[b]? = some o := fun {b o} hne hbo => by
   rw [setRow_other _ _ _ _ hne]
   exact hbo
  have hbX : Below w.heap.size w (w'.setRow w.heap.size (mC m (some ⟨gb, 0, none⟩) m.by'.length (.slice (some ⟨gs, 0, none⟩) sy.length sy.length) (some ⟨gt, 0, none⟩) m.told.length)) := below_setRow hbw (Nat.le_refl _) _
  have hMR := own_mr (w := V) (q := w.heap.size) (hL.below hbX hL.sz) (by have := hL.sz; omega) h1 h3 hL.sz (setRow_heap _ _ _ _ _ _ r0) (hold (by omega) h5) (hold (by omega) h7) (by unfold maxLen; omega)
  exact ⟨hbX, hold (by omega) r1, ⟨_, _, hMR⟩, hold (by omega) h6, by omega, h4, by omega, by omega⟩
 have HV := Lib.hid hV.symm
 have HV1 := Lib.hid hV1
 have HRES := Lib.hid hres
 clear hres
 have HR0 : Hid (qD9 n m 0 m) := ⟨hR, rfl, rfl, rfl, .here⟩
 have hw1 := hL.sz
 clear hV hV0 hV1 hV2 hB hT hS hL hR hlt1 hlt2
 rw [zLit] at HV
 go_enter Tryz.func9, Tryz.ntmps9
 go_upto_region 1 with fail
 rw [HV.out]
 clear HV
 have hn0 : ¬ (n : Int) < 0 := by omega
 have hn1 : ¬ (2000 : Int) < (n : Int) := by omega
 go_wp2_with (first | (refine wpList_load_row rfl 41 _ rfl w.heap.size rfl 41 (mC m ba bc (.slice s0 sy.length s2) ta tc) (0, 0) _ HV1.out Tryz.underlying41 rfl (qBg _ _ _ _ _ _) ?_) | (go_at_call 15; refine HO.out.mono ?_; rintro e W1 ⟨gb, gs, gt, rfl, hr0, hrs⟩; have HX0 := Lib.hid hr0; have HRS := Lib.hid hrs; clear hr0 hrs) | (refine wpList_store_row rfl 41 _ _ rfl w.heap.size (mC m (some ⟨gb, 0, none⟩) m.by'.length (.slice (some ⟨gs, 0, none⟩) sy.length sy.length) (some ⟨gt, 0, none⟩) m.told.length) rfl rfl 41 (mC m ba bc (.slice s0 sy.length s2) ta tc) HX0.out (qBg _ _ _ _ _ _) rfl (mAll _ _ _ _ _ _ _ _) ?_; generalize World.setRow W1 w.heap.size _ = X at *) | fail)
 go_loopw [18] (fun i wr => ∃ k : Nat, k <= n /\ i = .int .i64 k /\ ∃ M, Hid (qD9 n m k M) /\ Hid (RS w gb gs gt sy m.by'.length M wr)) (fun i _ => n - (intOf i).toNat)
 case atStart => exact ⟨0, Nat.zero_le _, rfl, m, HR0, HRS⟩
 case round =>
  obtain ⟨k, hk, rfl, M, HA, HS⟩ := hrel
  clear HRS HR0 HO HX0 HV1
  by_cases hlt : k < n
  ·have hk1 : (k : Int) < n := by omega
   have HST : Hid (Calls Tryz.prog 16 #[.pointer (some ⟨w.heap.size, 0, none⟩)] wr fun e W' => e = .returned (.tuple #[.bool (qA3 M), .int .i64 (qAN M)]) /\ Below w.heap.size w W' /\ W'.heap[w.heap.size + 1]? = some (.cells zC 41 (0, 0)) /\ (qAN M = 0 -> RS w gb gs gt sy m.by'.length (qAU M) W')) := by
    obtain ⟨ta1, tc1, hmr⟩ := HS.out.mr
    refine (qLX gt w.heap.size M gb m.by'.length (some ⟨gs, 0, none⟩) sy.length sy.length ta1 tc1 k wr hmr HA.out.rn (by omega) (by rw [HA.out.ln]; exact Nat.le_refl _) (HRES.out M HA.out.re)).mono ?_
    rintro e W' ⟨rfl, hkp, hm'⟩
    have h1 := HS.out.h1
    have h3 := HS.out.h3
    refine ⟨?_, HS.out.bel.trans (hkp.below (by omega) (Nat.le_refl _) (by omega)), ?_, fun h0 => HS.out.keep hkp (hm' h0)⟩
    ·by_cases h0 : qAN M = 0
     ·rw [if_pos h0]
     ·rw [if_neg h0, qKq h0]
    ·rw [hkp.block _ (by omega) (by omega) (by omega)]
     exact HS.out.res
   by_cases h0 : qAN M = 0
   ·by_cases hd : qA3 M = true
    ·have HF := Lib.hid (HA.out.fin hlt h0 hd)
     rw [h0, hd] at HST
     rw [zLit] at HST
     clear h0 hd HA HS
     generalize qAU M = M2 at *
     go_wp2_with (first | (go_at_call 16; refine HST.out.mono ?_; rintro e W2 ⟨rfl, hb2, hr2, hm2⟩; have hs2 := hm2 (by first | rfl | trivial); obtain ⟨ta2, tc2, hm3⟩ := hs2.mr; have HR2 := Lib.hid hr2; have HS2 := Lib.hid hs2; have HM3 := Lib.hid hm3; clear hb2 hr2 hm2 hs2 hm3) | (refine wpList_load_row rfl 41 _ rfl w.heap.size rfl 41 (mC M2 (some ⟨gb, 0, none⟩) m.by'.length (.slice (some ⟨gs, 0, none⟩) sy.length sy.length) ta2 tc2) (0, 0) _ HM3.out.b1 Tryz.underlying41 rfl (qBg _ _ _ _ _ _) ?_) | (refine wpList_store_row rfl 41 _ _ rfl (w.heap.size + 1) (mC M2 (some ⟨gb, 0, none⟩) m.by'.length (.slice (some ⟨gs, 0, none⟩) sy.length sy.length) ta2 tc2) rfl rfl 41 #[.int .i64 0, .int .i64 0, .int .i64 0, .int .i64 0, .int .i64 0, .int .i64 0, .int .i64 0, .int .i64 0, .int .i64 0, .int .i64 0, .int .i64 0, .int .i64 0, .int .i64 0, .int .i64 0, .int .i64 0, .int .i64 0, .bool false, .int .i64 0, .int .i64 0, .int .i64 0, .slice none 0 0, .slice none 0 0, .slice none 0 0, .int .i64 0] HR2.out (qBg _ _ _ _ _ _) rfl (mAll _ _ _ _ _ _ _ _) ?_) | fail)
     have hrow := HM3.out.row29 HR2.out (by omega) (by omega) (mC M2 (some ⟨gb, 0, none⟩) m.by'.length (.slice (some ⟨gs, 0, none⟩) sy.length sy.length) ta2 tc2)
     have hsy := setRow_other W2 (w.heap.size + 1) gs (mC M2 (some ⟨gb, 0, none⟩) m.by'.length (.slice (some ⟨gs, 0, none⟩) sy.length sy.length) ta2 tc2) (by have := HS2.out.h4; omega)
     exact bodyPost_ret (v := .tuple #[.agg (mC M2 (some ⟨gb, 0, none⟩) m.by'.length (.slice (some ⟨gs, 0, none⟩) sy.length sy.length) ta2 tc2), .int .i64 0]) (res_r Tryz.results9 rfl rfl (setRow_heap _ _ _ _ _ _ HR2.out) (qBg _ _ _ _ _ _)) rfl ⟨_, by rw [HF.out.1], below_setRow HS2.out.bel (by omega) _, Or.inr ⟨HF.out.1, by rw [HF.out.2]; exact hrow.mv (hsy.trans HS2.out.sym) (by have := HS2.out.h3; omega) (by have := HS2.out.h4; omega) (by have := HS2.out.h1; omega)⟩⟩
    ·have hd' : qA3 M = false := by simpa using hd
     have HN := Lib.hid (HA.out.step hlt h0 hd')
     rw [h0, hd'] at HST
     clear h0 hd hd' HA HS
     generalize qAU M = M2 at *
     go_wp2_with (first | (go_at_call 16; refine HST.out.mono ?_; rintro e W2 ⟨rfl, hb2, hr2, hm2⟩; have HS2 := Lib.hid (hm2 (by first | rfl | trivial)); clear hb2 hr2 hm2) | fail)
     exact ⟨⟨k + 1, by omega, by go_num, M2, HN, HS2⟩, by simp [intOf]; omega⟩
   ·have HF := Lib.hid (HA.out.bad hlt h0)
    have HN := Lib.hid h0
    have h0b : (qAN M != 0) = true := by simpa using h0
    rw [zLit] at HST
    clear h0 HA HS
    generalize qAN M = EE at *
    generalize qA3 M = DD at *
    go_wp2_with (first | (go_at_call 16; refine HST.out.mono ?_; rintro e W2 ⟨rfl, hb2, hr2, hm2⟩; have HB2 := Lib.hid hb2; have HR2 := Lib.hid hr2; clear hb2 hr2 hm2) | (refine wpList_store_row rfl 41 _ _ rfl (w.heap.size + 1) #[.int .i64 0, .int .i64 0, .int .i64 0, .int .i64 0, .int .i64 0, .int .i64 0, .int .i64 0, .int .i64 0, .int .i64 0, .int .i64 0, .int .i64 0, .int .i64 0, .int .i64 0, .int .i64 0, .int .i64 0, .int .i64 0, .bool false, .int .i64 0, .int .i64 0, .int .i64 0, .slice none 0 0, .slice none 0 0, .slice none 0 0, .int .i64 0] rfl rfl 41 #[.int .i64 0, .int .i64 0, .int .i64 0, .int .i64 0, .int .i64 0, .int .i64 0, .int .i64 0, .int .i64 0, .int .i64 0, .int .i64 0, .int .i64 0, .int .i64 0, .int .i64 0, .int .i64 0, .int .i64 0, .int .i64 0, .bool false, .int .i64 0, .int .i64 0, .int .i64 0, .slice none 0 0, .slice none 0 0, .slice none 0 0, .int .i64 0] HR2.out qGP rfl zAll ?_) | fail)
    exact bodyPost_ret (v := .tuple #[.agg zC, .int .i64 EE]) (res_r Tryz.results9 rfl rfl (setRow_heap _ _ _ _ _ _ HR2.out) qGP) rfl ⟨_, by rw [HF.out], below_setRow HB2.out (by omega) _, Or.inl ⟨by rw [HF.out]; exact HN.out, rfl⟩⟩
  ·have hk1 : ¬ (k : Int) < n := by omega
   obtain rfl : k = n := by omega
   have HF := Lib.hid HA.out.out
   have HB2 := Lib.hid HS.out.bel
   have HR2 := Lib.hid HS.out.res
   rw [zLit] at HR2
   clear HA HS
   go_wp2_with (first | (refine wpList_store_row rfl 41 _ _ rfl (w.heap.size + 1) #[.int .i64 0, .int .i64 0, .int .i64 0, .int .i64 0, .int .i64 0, .int .i64 0, .int .i64 0, .int .i64 0, .int .i64 0, .int .i64 0, .int .i64 0, .int .i64 0, .int .i64 0, .int .i64 0, .int .i64 0, .int .i64 0, .bool false, .int .i64 0, .int .i64 0, .int .i64 0, .slice none 0 0, .slice none 0 0, .slice none 0 0, .int .i64 0] rfl rfl 41 #[.int .i64 0, .int .i64 0, .int .i64 0, .int .i64 0, .int .i64 0, .int .i64 0, .int .i64 0, .int .i64 0, .int .i64 0, .int .i64 0, .int .i64 0, .int .i64 0, .int .i64 0, .int .i64 0, .int .i64 0, .int .i64 0, .bool false, .int .i64 0, .int .i64 0, .int .i64 0, .slice none 0 0, .slice none 0 0, .slice none 0 0, .int .i64 0] HR2.out qGP rfl zAll ?_) | fail)
   exact bodyPost_ret (v := .tuple #[.agg zC, .int .i64 13]) (res_r Tryz.results9 rfl rfl (setRow_heap _ _ _ _ _ _ HR2.out) qGP) rfl ⟨_, by rw [HF.out], below_setRow HB2.out (by omega) _, Or.inl ⟨by rw [HF.out]; decide, rfl⟩⟩
structure I4 where
 op : Int
 n : Int
 m : Int
 imm : Int
def I4.enc (k : I4) : Int := encI k.op k.n k.m k.imm
def I4.ok (k : I4) : Prop := qV k.op k.n k.m k.imm = 0
def qCp (n : Int) : List UInt8 := [lowB (n / 256), lowB n]
def qAH (l : List I4) : List UInt8 := l.flatMap fun k => qCp k.enc
theorem qBl : ∀ l : List I4, (qAH l).length = 2 * l.length
 | [] => rfl
 | a :: l => by
   have := qBl l
   have e : qAH (a :: l) = qCp a.enc ++ qAH l := by simp [qAH]
   rw [e, List.length_append, this, List.length_cons]
   simp [qCp]
   omega
theorem qFw (l : List I4) (i : Nat) (h : i < l.length) : qAH l = qAH (l.take i) ++ (qCp l[i].enc ++ qAH (l.drop (i + 1))) := by
 have e : l = l.take i ++ (l[i] :: l.drop (i + 1)) := by rw [List.getElem_cons_drop, List.take_append_drop]
 have e2 : qAH l = qAH (l.take i ++ (l[i] :: l.drop (i + 1))) := by rw [<- e]
 rw [e2]
 simp only [qAH, List.flatMap_append, List.flatMap_cons]
theorem qLI (a b : List UInt8) (x : Int) (h0 : 0 <= x) (h1 : x <= 65535) : qCk (bsOf (a ++ (qCp x ++ b))) (a ++ (qCp x ++ b)).length (a.length : Int) 2 = x := by
 have hx : ∀ j : Nat, j < 2 -> qCL (bsOf (a ++ (qCp x ++ b))) (a ++ (qCp x ++ b)).length ((a.length : Int) + j) = (((qCp x).getD j 0).toNat : Int) := by
  intro j hj
  unfold qCL
  rw [if_pos ⟨by omega, by simp only [List.length_append, qCp, List.length_cons, List.length_nil]; omega⟩]
  have : ((a.length : Int) + j).toNat = a.length + j := by omega
  rw [this]
  unfold bsOf
  rw [List.getD_eq_getElem?_getD, List.getD_eq_getElem?_getD, List.getElem?_append_right (by omega), List.getElem?_append_left (by simp [qCp]; omega)]
  rw [show a.length + j - a.length = j by omega]
 have y0 := hx 0 (by omega)
 have y1 := hx 1 (by omega)
 simp only [qCp, List.getD_cons_zero, List.getD_cons_succ, qBO] at y0 y1
 simp only [qCk]
 rw [show qCp x = [lowB (x / 256), lowB x] from rfl, y0, y1]
 omega
theorem enc_in {k : I4} (h : k.ok) : 0 <= k.enc /\ k.enc <= 65535 := by
 have h2 := (turn1 h).2
 unfold decE at h2
 split at h2
 ·next hw =>
  unfold qP at hw
  simp at hw
  exact hw
 ·simp at h2
theorem qHO {m : Ma} {l : List I4} {i : Nat} {a : Int} (hb : m.base = 0) (hc : m.by' = qAH l) (hi : i < l.length) (hok : l[i].ok) (ha : a = 2 * i) :
  qt m a = 0 /\ fV m a 0 = l[i].op /\ fV m a 1 = l[i].n /\ fV m a 2 = l[i].m /\ fV m a 3 = l[i].imm := by
 have hl := qBl l
 have hh : hasB m a 2 = true := by
  unfold hasB
  rw [hb, hc, hl]
  simp only [Bool.and_eq_true, decide_eq_true_eq]
  refine ⟨?_, ?_, ?_⟩ <;> omega
 have hr := enc_in hok
 have hw : qBW m a = l[i].enc := by
  unfold qBW
  rw [hb, hc, qFw l i hi]
  have hlen : ((qAH (l.take i)).length : Int) = a - 0 := by rw [qBl, List.length_take]; omega
  rw [<- hlen]
  exact qLI _ _ _ hr.1 hr.2
 obtain ⟨t1, t2⟩ := turn1 hok
 unfold qt fV
 rw [if_pos hh, if_pos hh, if_pos hh, if_pos hh, if_pos hh, hw]
 refine ⟨t2, ?_, ?_, ?_, ?_⟩ <;> (unfold dV; show (match decV (encI l[i].op l[i].n l[i].m l[i].imm) with | .agg a => intOf (a.getD _ (.int .i64 0)) | _ => 0) = _; rw [t1]; rfl)
theorem ok27 : (⟨27, 0, 0, 1⟩ : I4).ok := by show qV 27 0 0 1 = 0; kernel_rfl
theorem ok27' : (⟨27, 0, 0, 0⟩ : I4).ok := by show qV 27 0 0 0 = 0; kernel_rfl
structure At (m : Ma) (l : List I4) (i : Nat) (x y : Int) (tt : Bool) (told : List Int) : Prop where
 base : m.base = 0
 by' : m.by' = qAH l
 pc : m.pc = 2 * i
 r0 : m.r 0 = x
 r1 : m.r 1 = y
 t : m.t = tt
 told : m.told = told
def Goes (m : Ma) : Prop := qAN m = 0 /\ qA3 m = false /\ ResM m
section
variable {m : Ma} {l : List I4} {i : Nat} {x y : Int} {tt : Bool} {told : List Int}
theorem qHd (h : At m l i x y tt told) (hi : i < l.length) (hok : l[i].ok) (hl : qBo l[i].op = false) (hn : ¬ (l[i].op = 27 /\ l[i].imm = 0)) (hm : l[i].op < 23 \/ l[i].op = 27) (hr : Res l[i].op) :
  Goes m /\ qAU m = { qAB { m with st := m.st + 1 } l[i].op l[i].n l[i].m l[i].imm m.pc with pc := m.pc + 2 } := by
 obtain ⟨f0, f1, f2, f3, f4⟩ := qHO h.base h.by' hi hok h.pc
 refine ⟨⟨?_, ?_, by rw [f1]; exact hl, by rw [f1]; exact hr⟩, ?_⟩
 ·unfold qAN
  rw [f0, f1, f2, f3, f4, if_neg (by simp), if_neg hn, if_pos hl]
  unfold qBX
  rw [if_neg (by omega)]
 ·unfold qA3
  rw [f0, f1, f4]
  simpa using hn
 ·unfold qAU
  rw [f1, f2, f3, f4, if_neg hn, if_pos hl]
theorem go_mov0 (c : Int) (h : At m l i x y tt told) (hi : i < l.length) (hk : l[i] = ⟨3, 0, 0, c⟩) (hok : l[i].ok) : Goes m /\ At (qAU m) l (i + 1) c y tt told := by
 obtain ⟨g, e⟩ := qHd h hi hok (by rw [hk]; rfl) (by rw [hk]; intro h; exact absurd h.1 (show (3 : Int) ≠ 27 by decide)) (by rw [hk]; left; show (3 : Int) < 23; decide) (by rw [hk]; exact .inl rfl)
 refine ⟨g, ?_⟩
 rw [e, hk]
 exact ⟨h.base, h.by', by show m.pc + 2 = _; rw [h.pc]; omega, rfl, h.r1, h.t, h.told⟩
theorem go_tell (h : At m l i x y tt told) (hi : i < l.length) (hk : l[i] = ⟨27, 0, 0, 1⟩) : Goes m /\ At (qAU m) l (i + 1) x y tt (told ++ [x]) := by
 obtain ⟨g, e⟩ := qHd h hi (by rw [hk]; exact ok27) (by rw [hk]; rfl) (by rw [hk]; decide) (by rw [hk]; decide) (by rw [hk]; exact .inr (.inr rfl))
 refine ⟨g, ?_⟩
 rw [e, hk]
 refine ⟨h.base, h.by', by show m.pc + 2 = _; rw [h.pc]; omega, h.r0, h.r1, h.t, ?_⟩
 show m.told ++ [m.r 0] = _
 rw [h.told, h.r0]
theorem at_end (h : At m l i x y tt told) (hi : i < l.length) (hk : l[i] = ⟨27, 0, 0, 0⟩) : qAN m = 0 /\ qA3 m = true /\ (qAU m).told = told /\ ResM m := by
 obtain ⟨f0, f1, f2, f3, f4⟩ := qHO h.base h.by' hi (by rw [hk]; exact ok27') h.pc
 rw [hk] at f1 f2 f3 f4
 refine ⟨?_, ?_, ?_, by rw [f1]; rfl, by rw [f1]; exact .inr (.inr rfl)⟩
 ·unfold qAN
  rw [f0, f1, f4, if_neg (by simp), if_pos ⟨rfl, rfl⟩]
 ·unfold qA3
  rw [f0, f1, f4]
  rfl
 ·unfold qAU
  rw [f1, f4, if_pos ⟨rfl, rfl⟩]
  exact h.told
end
inductive Walks : Nat -> Ma -> Ma -> Prop where
 | here (m : Ma) : Walks 0 m m
 | step {n : Nat} {m k : Ma} (h : Goes m) (r : Walks n (qAU m) k) : Walks (n + 1) m k
theorem Walks.trans {a b : Nat} {m k q : Ma} (h : Walks a m k) (r : Walks b k q) : Walks (a + b) m q := by
 induction h with
 | here => simpa using r
 | step h _ ih => rw [Nat.succ_add]; exact .step h (ih r)
theorem Walks.run {a n : Nat} {m k : Ma} (h : Walks a m k) : runE (a + n) m = runE n k /\ runM (a + n) m = runM n k := by
 induction h with
 | here => simp
 | step h _ ih =>
   rw [Nat.succ_add]
   simp only [runE, runM]
   rw [if_neg (by rw [h.1]; simp), if_neg (by rw [h.2.1]; simp), if_neg (by rw [h.1]; simp), if_neg (by rw [h.2.1]; simp)]
   exact ih
theorem Rch.first {m M : Ma} (h : Rch m M) : M = m \/ (qAN m = 0 /\ qA3 m = false /\ Rch (qAU m) M) := by
 induction h with
 | here => exact .inl rfl
 | step r h0 hd ih =>
   rcases ih with rfl | ⟨a, b, c⟩
   ·exact .inr ⟨h0, hd, .here⟩
   ·exact .inr ⟨a, b, .step c h0 hd⟩
theorem Walks.res {a : Nat} {m k : Ma} (h : Walks a m k) (hd : qA3 k = true) (hk : ResM k) : ∀ M, Rch m M -> ResM M := by
 induction h with
 | here m =>
   intro M hM
   rcases hM.first with rfl | ⟨_, b, _⟩
   ·exact hk
   ·rw [hd] at b; cases b
 | step g _ ih =>
   intro M hM
   rcases hM.first with rfl | ⟨_, _, c⟩
   ·exact g.2.2
   ·exact ih hd hk M c
theorem at_of {l : List I4} {i : Nat} {k : I4} (h : l[i]? = some k) : ∃ hi : i < l.length, l[i] = k := List.getElem?_eq_some_iff.1 h
theorem qLN (r d : Int) (hr : r = 0 \/ r = 1) (h0 : -128 <= d) (h1 : d <= 127) : (⟨3, r, 0, d⟩ : I4).ok := by
 show qV 3 r 0 d = 0
 have a : qu (qF 3) = -128 := rfl
 have b : qU (qF 3) = 127 := rfl
 unfold qV
 rcases hr with rfl | rfl
 ·rw [if_pos (by decide), a, b, if_pos ⟨by decide, by decide, by simp [qP]; omega⟩]
 ·rw [if_pos (by decide), a, b, if_pos ⟨by decide, by decide, by simp [qP]; omega⟩]
def SI (base : Int) (im : List UInt8) (a : Int) (k : I4) : Prop := k.ok /\ ∃ A B, im = A ++ (qCp k.enc ++ B) /\ a = base + A.length /\ a % 2 = 0
theorem qHZ {m : Ma} {a : Int} {k : I4} (h : SI m.base m.by' a k) : qt m a = 0 /\ fV m a 0 = k.op /\ fV m a 1 = k.n /\ fV m a 2 = k.m /\ fV m a 3 = k.imm := by
 obtain ⟨hok, A, B, hc, ha, h2⟩ := h
 have hh : hasB m a 2 = true := by
  unfold hasB
  rw [hc]
  simp only [Bool.and_eq_true, decide_eq_true_eq, List.length_append, qCp, List.length_cons, List.length_nil]
  refine ⟨?_, ?_, ?_⟩ <;> omega
 have hr := enc_in hok
 have hw : qBW m a = k.enc := by
  unfold qBW
  rw [hc]
  have hlen : a - m.base = (A.length : Int) := by omega
  rw [hlen]
  exact qLI _ _ _ hr.1 hr.2
 obtain ⟨t1, t2⟩ := turn1 hok
 unfold qt fV
 rw [if_pos hh, if_pos hh, if_pos hh, if_pos hh, if_pos hh, hw]
 refine ⟨t2, ?_, ?_, ?_, ?_⟩ <;> (unfold dV; show (match decV (encI k.op k.n k.m k.imm) with | .agg a => intOf (a.getD _ (.int .i64 0)) | _ => 0) = _; rw [t1]; rfl)
structure Ag (m : Ma) (base : Int) (im : List UInt8) (a : Int) (r : Nat -> Int) (tt : Bool) (told : List Int) (pr : Int) : Prop where
 base : m.base = base
 by' : m.by' = im
 pc : m.pc = a
 r : m.r = r
 t : m.t = tt
 told : m.told = told
 pr : m.pr = pr
def setF (r : Nat -> Int) (n : Nat) (v : Int) : Nat -> Int := fun k => if k = n then v else r k
section
variable {m : Ma} {base : Int} {im : List UInt8} {a : Int} {r : Nat -> Int} {tt : Bool} {told : List Int} {pr : Int}
theorem qFJ {k : I4} (h : Ag m base im a r tt told pr) (hs : SI base im a k) (hl : qBo k.op = false) (hn : ¬ (k.op = 27 /\ k.imm = 0)) (he : qBX { m with st := m.st + 1 } k.op k.n k.m k.imm a = 0) (hr : Res k.op) :
  Goes m /\ qAU m = { qAB { m with st := m.st + 1 } k.op k.n k.m k.imm a with pc := a + 2 } := by
 have hs' : SI m.base m.by' m.pc k := by rw [h.base, h.by', h.pc]; exact hs
 obtain ⟨f0, f1, f2, f3, f4⟩ := qHZ hs'
 have hpc := h.pc
 refine ⟨⟨?_, ?_, by rw [f1]; exact hl, by rw [f1]; exact hr⟩, ?_⟩
 ·unfold qAN
  rw [f0, f1, f2, f3, f4, if_neg (by simp), if_neg hn, if_pos hl, hpc]
  exact he
 ·unfold qA3
  rw [f0, f1, f4]
  simpa using hn
 ·unfold qAU
  rw [f1, f2, f3, f4, if_neg hn, if_pos hl, hpc]
theorem low_e {m : Ma} {op n mm imm a : Int} (h : op < 23 \/ op = 27) : qBX m op n mm imm a = 0 := by
 unfold qBX
 rw [if_neg (by omega)]
theorem ag_mov (n : Nat) (c : Int) (h : Ag m base im a r tt told pr) (hs : SI base im a ⟨3, n, 0, c⟩) : Goes m /\ Ag (qAU m) base im (a + 2) (setF r n c) tt told pr := by
 obtain ⟨g, e⟩ := qFJ h hs rfl (by rintro ⟨h, _⟩; simp at h) (low_e (.inl (by show (3 : Int) < 23; decide))) (.inl rfl)
 refine ⟨g, ?_⟩
 rw [e]
 refine ⟨h.base, h.by', rfl, ?_, h.t, h.told, h.pr⟩
 rw [<- h.r]
 rfl
theorem ag_addi (n : Nat) (c v : Int) (h : Ag m base im a r tt told pr) (hs : SI base im a ⟨4, n, 0, c⟩) (hv : wrap32 (wrap32 (r n) + c) = v) : Goes m /\ Ag (qAU m) base im (a + 2) (setF r n v) tt told pr := by
 obtain ⟨g, e⟩ := qFJ h hs rfl (by rintro ⟨h, _⟩; simp at h) (low_e (.inl (by show (4 : Int) < 23; decide))) (.inr (.inl rfl))
 refine ⟨g, ?_⟩
 rw [e]
 refine ⟨h.base, h.by', rfl, ?_, h.t, h.told, h.pr⟩
 rw [<- hv, <- h.r]
 rfl
theorem ag_tell (h : Ag m base im a r tt told pr) (hs : SI base im a ⟨27, 0, 0, 1⟩) : Goes m /\ Ag (qAU m) base im (a + 2) r tt (told ++ [r 0]) pr := by
 obtain ⟨g, e⟩ := qFJ h hs rfl (by rintro ⟨_, h⟩; simp at h) (low_e (.inr rfl)) (.inr (.inr rfl))
 refine ⟨g, ?_⟩
 rw [e]
 refine ⟨h.base, h.by', rfl, h.r, h.t, ?_, h.pr⟩
 show m.told ++ [m.r 0] = _
 rw [h.told, h.r]
theorem ag_end (h : Ag m base im a r tt told pr) (hs : SI base im a ⟨27, 0, 0, 0⟩) : qAN m = 0 /\ qA3 m = true /\ (qAU m).told = told /\ ResM m := by
 have hs' : SI m.base m.by' m.pc ⟨27, 0, 0, 0⟩ := by rw [h.base, h.by', h.pc]; exact hs
 obtain ⟨f0, f1, f2, f3, f4⟩ := qHZ hs'
 simp only at f1 f2 f3 f4
 refine ⟨?_, ?_, ?_, by rw [f1]; rfl, by rw [f1]; exact .inr (.inr rfl)⟩
 ·unfold qAN
  rw [f0, f1, f4, if_neg (by simp), if_pos ⟨rfl, rfl⟩]
 ·unfold qA3
  rw [f0, f1, f4]
  rfl
 ·unfold qAU
  rw [f1, f4, if_pos ⟨rfl, rfl⟩]
  exact h.told
end
theorem si_of {l : List I4} {rest : List UInt8} {i : Nat} {k : I4} {base a : Int} (hk : l[i]? = some k) (hok : k.ok) (hb : base % 2 = 0) (ha : a = base + 2 * i) : SI base (qAH l ++ rest) a k := by
 obtain ⟨hi, he⟩ := at_of hk
 refine ⟨hok, qAH (l.take i), qAH (l.drop (i + 1)) ++ rest, ?_, ?_, by omega⟩
 ·rw [qFw l i hi, he]
  simp [List.append_assoc]
 ·rw [qBl, List.length_take]
  omega
def qA4 : List Int -> Int
 | [] => 0
 | a :: l => a + qA4 l
theorem qH4 (l : List Int) (x : Int) : qA4 (l ++ [x]) = qA4 l + x := by
 induction l with
 | nil => simp [qA4]
 | cons a l ih => simp only [List.cons_append, qA4, ih]; omega
section
variable {m : Ma} {base : Int} {im : List UInt8} {a : Int} {r : Nat -> Int} {tt : Bool} {told : List Int} {pr : Int}
end
theorem qKS (r d : Int) (hr : r = 0 \/ r = 1) (h0 : -128 <= d) (h1 : d <= 127) : (⟨4, r, 0, d⟩ : I4).ok := by
 show qV 4 r 0 d = 0
 have a : qu (qF 4) = -128 := rfl
 have b : qU (qF 4) = 127 := rfl
 unfold qV
 rcases hr with rfl | rfl
 ·rw [if_pos (by decide), a, b, if_pos ⟨by decide, by decide, by simp [qP]; omega⟩]
 ·rw [if_pos (by decide), a, b, if_pos ⟨by decide, by decide, by simp [qP]; omega⟩]
theorem walk_fin {n : Nat} {m k : Ma} {tl : List Int} (hn : n < 2000) (hw : Walks n m k) (e1 : qAN k = 0) (e2 : qA3 k = true) (e3 : (qAU k).told = tl) (e4 : ResM k) : runE 2000 m = 0 /\ (runM 2000 m).told = tl /\ ∀ M, Rch m M -> ResM M := by
 obtain ⟨q, hq⟩ : ∃ q, 2000 = n + (q + 1) := ⟨2000 - n - 1, by omega⟩
 have hrun := hw.run (n := q + 1)
 rw [hq, hrun.1, hrun.2]
 refine ⟨?_, ?_, hw.res e2 e4⟩
 ·simp only [runE]
  rw [if_neg (by rw [e1]; simp), if_pos e2]
 ·simp only [runM]
  rw [if_neg (by rw [e1]; simp), if_pos e2, e3]
def mac4 (l : List Int) : List I4 := ⟨3, 0, 0, 0⟩ :: (l.map (fun n => (⟨4, 0, 0, n⟩ : I4)) ++ [⟨27, 0, 0, 1⟩, ⟨27, 0, 0, 0⟩])
theorem mac_bd (l : List Int) (h : ∀ x, x ∈ l -> -100 <= x /\ x <= 100) : -(100 * (l.length : Int)) <= qA4 l /\ qA4 l <= 100 * l.length := by
 induction l with
 | nil => simp [qA4]
 | cons a l ih =>
   have h1 := h a (by simp)
   have h2 := ih fun x hx => h x (by simp [hx])
   simp only [qA4, List.length_cons]
   omega
theorem mac_at {l rest dn : List Int} {x : Int} (h : l = dn ++ x :: rest) : (mac4 l)[dn.length + 1]? = some ⟨4, 0, 0, x⟩ := by
 subst h
 simp [mac4]
theorem qHh (l : List Int) (hl : l.length <= 12) (hv : ∀ x, x ∈ l -> -100 <= x /\ x <= 100) {told : List Int} {pr : Int} :
  ∀ (rest dn : List Int) {m : Ma} {r : Nat -> Int} {tt : Bool}, l = dn ++ rest -> Ag m 0 (qAH (mac4 l)) (2 + 2 * dn.length) r tt told pr -> r 0 = qA4 dn ->
   ∃ k r', Walks rest.length m k /\ Ag k 0 (qAH (mac4 l)) (2 + 2 * l.length) r' tt told pr /\ r' 0 = qA4 l
 | [], dn, m, r, tt, hd, h, h0 => by
   rw [List.append_nil] at hd
   subst hd
   exact ⟨m, r, .here _, h, h0⟩
 | x :: rest, dn, m, r, tt, hd, h, h0 => by
   have hx := hv x (by rw [hd]; simp)
   have hdn := mac_bd dn fun y hy => hv y (by rw [hd]; simp [hy])
   have hlen : dn.length + rest.length + 1 = l.length := by rw [hd]; simp; omega
   have hs : SI 0 (qAH (mac4 l)) (2 + 2 * (dn.length : Int)) ⟨4, 0, 0, x⟩ := by
    have := si_of (rest := []) (base := 0) (a := 2 + 2 * (dn.length : Int)) (mac_at hd) (qKS 0 x (.inl rfl) (by omega) (by omega)) (by decide) (by omega)
    rw [List.append_nil] at this
    exact this
   have w32 : ∀ z : Int, -1000000 <= z -> z <= 1000000 -> wrap32 z = z := fun z z0 z1 => by unfold wrap32; omega
   obtain ⟨g1, a1⟩ := ag_addi 0 x (qA4 dn + x) h hs (by rw [h0, w32 (qA4 dn) (by omega) (by omega), w32 (qA4 dn + x) (by omega) (by omega)])
   obtain ⟨k, r', b1, b2, b3⟩ := qHh l hl hv rest (dn ++ [x]) (by rw [hd]; simp) (by rw [show (2 : Int) + 2 * ((dn ++ [x]).length : Nat) = 2 + 2 * dn.length + 2 by simp; omega]; exact a1) (by rw [qH4]; simp [setF])
   refine ⟨k, r', ?_, b2, b3⟩
   rw [List.length_cons]
   have := Walks.step g1 b1
   exact this
theorem mac_run (l : List Int) (hl : l.length <= 12) (hv : ∀ x, x ∈ l -> -100 <= x /\ x <= 100) :
  runE 2000 (newM 0 (qAH (mac4 l))) = 0 /\ (runM 2000 (newM 0 (qAH (mac4 l)))).told = [qA4 l] /\ ∀ M, Rch (newM 0 (qAH (mac4 l))) M -> ResM M := by
 have hs : ∀ (i : Nat) k a, (mac4 l)[i]? = some k -> k.ok -> a = 0 + 2 * (i : Int) -> SI 0 (qAH (mac4 l)) a k := fun i k a e1 e2 e3 => by
  have := si_of (rest := []) (base := 0) (a := a) e1 e2 (by decide) e3
  rw [List.append_nil] at this
  exact this
 have h : Ag (newM 0 (qAH (mac4 l))) 0 (qAH (mac4 l)) 0 (fun _ => 0) false [] (-1) := ⟨rfl, rfl, rfl, rfl, rfl, rfl, rfl⟩
 obtain ⟨g1, a1⟩ := ag_mov 0 0 h (hs 0 _ _ rfl (qLN 0 0 (.inl rfl) (by decide) (by decide)) (by decide))
 obtain ⟨k, r', b1, b2, b3⟩ := qHh l hl hv l [] rfl a1 (by simp [setF, qA4])
 have e1 : (mac4 l)[l.length + 1]? = some ⟨27, 0, 0, 1⟩ := by simp [mac4]
 have e2 : (mac4 l)[l.length + 2]? = some ⟨27, 0, 0, 0⟩ := by simp [mac4]
 obtain ⟨g4, a4⟩ := ag_tell b2 (hs _ _ _ e1 ok27 (by omega))
 obtain ⟨f1, f2, f3, f4⟩ := ag_end a4 (hs _ _ _ e2 ok27' (by omega))
 rw [List.nil_append, b3] at f3
 exact walk_fin (n := 1 + (l.length + 1)) (by omega) (Walks.trans (.step g1 (.here _)) (b1.trans (.step g4 (.here _)))) f1 f2 f3 f4
end Go.Proofs.YtgjmbjahgcndnaaGreatDoor.Si
