/- The document's own Run. -/
import Derived.Test.YtabepbaldadmgaaDoorPut33
import Derived.Test.YtabepbaldadmgaaDoorPut41
import Derived.Test.YtabepbaldadmgaaDoorSmT
import Derived.Test.YtabepbaldadmgaaDoorIsaRefD
namespace Go.Proofs.YtabepbaldadmgaaDoor
open Go.RowKit Isa

set_option maxHeartbeats 8000000 in
set_option maxRecDepth 100000 in
theorem rrun_out (m : Ma) (sy : List Sy) (v : Value) (most : Int) (w : World) (hv : MV w v m sy) (hm : most < 0 ∨ 2000 < most) :
    Calls Tryd.prog 16 #[v, .int .i64 most] w fun e w' => e = .returned (.tuple #[.agg zC, .int .i64 3]) ∧ Below w.heap.size w w' := by
  obtain ⟨ba, bc, s0, s2, ta, tc, rfl, hB, hT, hS⟩ := hv
  obtain ⟨V, hV⟩ : ∃ V, V = (w.alloc (.cells (mC m ba bc (.slice s0 sy.length s2) ta tc) 29)).alloc (.cells zC 29) := ⟨_, rfl⟩
  have hV0 : Below w.heap.size w V := by rw [hV]; exact (oalloc _ _).trans ((oalloc _ _).mono (by simp))
  have hV2 : V.heap[w.heap.size + 1]? = some (.cells zC 29 (0, 0)) := by
    rw [hV]
    have := blk_new (w.alloc (.cells (mC m ba bc (.slice s0 sy.length s2) ta tc) 29)) zC 29
    simpa using this
  have HV := Lib.hid hV.symm
  have HV2 := Lib.hid hV2
  have HB := Lib.hid hV0
  clear hV hV0 hV2 hB hT hS
  rw [zLit] at HV HV2
  rcases hm with hm | hm
  · go_enter Tryd.func16, Tryd.ntmps16
    go_upto_region 1 with fail
    rw [HV.out]
    clear HV
    go_wp2_with (first | (refine wpList_store_row rfl 29 _ _ rfl (w.heap.size + 1) #[.int .i64 0, .int .i64 0, .int .i64 0, .int .i64 0, .int .i64 0, .int .i64 0, .int .i64 0, .int .i64 0, .int .i64 0, .int .i64 0, .int .i64 0, .int .i64 0, .int .i64 0, .int .i64 0, .int .i64 0, .int .i64 0, .bool false, .int .i64 0, .int .i64 0, .int .i64 0, .slice none 0 0, .slice none 0 0, .slice none 0 0, .int .i64 0] rfl rfl 29 #[.int .i64 0, .int .i64 0, .int .i64 0, .int .i64 0, .int .i64 0, .int .i64 0, .int .i64 0, .int .i64 0, .int .i64 0, .int .i64 0, .int .i64 0, .int .i64 0, .int .i64 0, .int .i64 0, .int .i64 0, .int .i64 0, .bool false, .int .i64 0, .int .i64 0, .int .i64 0, .slice none 0 0, .slice none 0 0, .slice none 0 0, .int .i64 0] HV2.out zSize rfl zAll ?_) | fail)
    exact bodyPost_ret (v := .tuple #[.agg zC, .int .i64 3]) (res_r Tryd.results16 rfl rfl (setRow_heap _ _ _ _ _ _ HV2.out) zSize) rfl ⟨rfl, below_setRow HB.out (by omega) _⟩
  · have hm0 : ¬ most < 0 := by omega
    go_enter Tryd.func16, Tryd.ntmps16
    go_upto_region 1 with fail
    rw [HV.out]
    clear HV
    go_wp2_with (first | (refine wpList_store_row rfl 29 _ _ rfl (w.heap.size + 1) #[.int .i64 0, .int .i64 0, .int .i64 0, .int .i64 0, .int .i64 0, .int .i64 0, .int .i64 0, .int .i64 0, .int .i64 0, .int .i64 0, .int .i64 0, .int .i64 0, .int .i64 0, .int .i64 0, .int .i64 0, .int .i64 0, .bool false, .int .i64 0, .int .i64 0, .int .i64 0, .slice none 0 0, .slice none 0 0, .slice none 0 0, .int .i64 0] rfl rfl 29 #[.int .i64 0, .int .i64 0, .int .i64 0, .int .i64 0, .int .i64 0, .int .i64 0, .int .i64 0, .int .i64 0, .int .i64 0, .int .i64 0, .int .i64 0, .int .i64 0, .int .i64 0, .int .i64 0, .int .i64 0, .int .i64 0, .bool false, .int .i64 0, .int .i64 0, .int .i64 0, .slice none 0 0, .slice none 0 0, .slice none 0 0, .int .i64 0] HV2.out zSize rfl zAll ?_) | fail)
    exact bodyPost_ret (v := .tuple #[.agg zC, .int .i64 3]) (res_r Tryd.results16 rfl rfl (setRow_heap _ _ _ _ _ _ HV2.out) zSize) rfl ⟨rfl, below_setRow HB.out (by omega) _⟩


/-- It lies in such blocks. -/
def OffP (P : Nat → Prop) (a : Option Addr) (n : Nat) : Prop := ∀ x, a = some x → 0 < n → P x.block
/-- The value reads as a machine; all of it lies in such blocks. -/
def MVp (P : Nat → Prop) (w : World) (v : Value) (m : Ma) (sy : List Sy) : Prop := ∃ ba bc s0 s2 ta tc, v = .agg (mC m ba bc (.slice s0 sy.length s2) ta tc) ∧ BRd w ba m.by' ∧ TRd w ta m.told ∧ SrcOf w s0 sy.length (scells sy) ∧ OffP P ba m.by'.length ∧ OffP P ta m.told.length ∧ OffP P s0 sy.length
theorem MVp.mv {P : Nat → Prop} {w : World} {v : Value} {m : Ma} {sy : List Sy} (h : MVp P w v m sy) : MV w v m sy := by
  obtain ⟨ba, bc, s0, s2, ta, tc, e, h1, h2, h3, _⟩ := h
  exact ⟨ba, bc, s0, s2, ta, tc, e, h1, h2, h3⟩
theorem MVp.mono {P Q : Nat → Prop} (hPQ : ∀ b, P b → Q b) {w : World} {v : Value} {m : Ma} {sy : List Sy} (h : MVp P w v m sy) : MVp Q w v m sy := by
  obtain ⟨ba, bc, s0, s2, ta, tc, e, h1, h2, h3, h4, h5, h6⟩ := h
  exact ⟨ba, bc, s0, s2, ta, tc, e, h1, h2, h3, fun x hx h0 => hPQ _ (h4 x hx h0), fun x hx h0 => hPQ _ (h5 x hx h0), fun x hx h0 => hPQ _ (h6 x hx h0)⟩
theorem MV.p {w : World} {v : Value} {m : Ma} {sy : List Sy} (h : MV w v m sy) : MVp (fun b => b < w.heap.size) w v m sy := by
  obtain ⟨ba, bc, s0, s2, ta, tc, e, h1, h2, h3⟩ := h
  refine ⟨ba, bc, s0, s2, ta, tc, e, h1, h2, h3, fun a ha h0 => ?_, fun a ha h0 => ?_, fun a ha h0 => ?_⟩
  · obtain ⟨b, off, e1, hl, _⟩ := h1 h0
    rw [ha] at e1
    cases e1
    exact hl
  · obtain ⟨b, off, e1, hl, _⟩ := h2 h0
    rw [ha] at e1
    cases e1
    exact hl
  · obtain ⟨b, off, e1, hl, _⟩ := h3 h0
    rw [ha] at e1
    cases e1
    exact hl
theorem MVp.next {P : Nat → Prop} {w w' : World} {v : Value} {m : Ma} {sy : List Sy} (h : MVp P w v m sy) (hb : Below w.heap.size w w') : MVp P w' v m sy := by
  obtain ⟨ba, bc, s0, s2, ta, tc, e, h1, h2, h3, h4⟩ := h
  exact ⟨ba, bc, s0, s2, ta, tc, e, h1.next hb, h2.next hb, h3.below hb (Nat.le_refl _), h4⟩
theorem scell_row {W : World} {q : Nat} {c : Array Value} {p : Addr} (h : p.block ≠ q) : (W.setRow q c).cell? p = W.cell? p := World.cell?_of_block (setRow_other W q p.block c h)
theorem MVp.row {P : Nat → Prop} {w : World} {v : Value} {m : Ma} {sy : List Sy} (h : MVp P w v m sy) (k : Nat) (hk : ¬ P k) (c : Array Value) : MVp P (w.setRow k c) v m sy := by
  obtain ⟨ba, bc, s0, s2, ta, tc, e, h1, h2, h3, h4, h5, h6⟩ := h
  have hz : (w.setRow k c).heap.size = w.heap.size := by simp [World.setRow]
  refine ⟨ba, bc, s0, s2, ta, tc, e, fun h0 => ?_, fun h0 => ?_, fun h0 => ?_, h4, h5, h6⟩
  · obtain ⟨b, off, e1, hl, hc⟩ := h1 h0
    have := h4 ⟨b, off, none⟩ e1 h0
    exact ⟨b, off, e1, by rw [hz]; exact hl, fun i hi => by rw [scell_row (show b ≠ k from fun e => hk (e ▸ this))]; exact hc i hi⟩
  · obtain ⟨b, off, e1, hl, hc⟩ := h2 h0
    have := h5 ⟨b, off, none⟩ e1 h0
    exact ⟨b, off, e1, by rw [hz]; exact hl, fun i hi => by rw [scell_row (show b ≠ k from fun e => hk (e ▸ this))]; exact hc i hi⟩
  · obtain ⟨b, off, e1, hl, hc⟩ := h3 h0
    have := h6 ⟨b, off, none⟩ e1 h0
    exact ⟨b, off, e1, by rw [hz]; exact hl, fun j v hj => by rw [scell_row (show b ≠ k from fun e => hk (e ▸ this))]; exact hc j v hj⟩

/-- The blocks that were, and those behind the two boxes. -/
def InQ (w : World) (P : Nat → Prop) (b : Nat) : Prop := P b ∨ w.heap.size + 1 < b
theorem inq_off {w : World} {P : Nat → Prop} (hP : ∀ b, P b → b < w.heap.size) : ¬ InQ w P w.heap.size ∧ ¬ InQ w P (w.heap.size + 1) := by
  refine ⟨?_, ?_⟩
  · rintro (h | h)
    · have := hP _ h; omega
    · omega
  · rintro (h | h)
    · have := hP _ h; omega
    · omega
/-- What lies in memory while the document's own Run runs. -/
structure RR (w : World) (P : Nat → Prop) (sy : List Sy) (M : Ma) (W : World) : Prop where
  bel : Below w.heap.size w W
  res : W.heap[w.heap.size + 1]? = some (.cells zC 29 (0, 0))
  box : ∃ c, W.heap[w.heap.size]? = some (.cells c 29 (0, 0)) ∧ MVp (InQ w P) W (.agg c) M sy
theorem near_off {α : Type} {Q : Nat → Prop} {W : World} {a a' : Option Addr} {L L' : α} {n n' : Nat} (h : NearA W a a' L L') (ho : OffP Q a n) (hq : ∀ g, W.heap.size ≤ g → Q g) (hn : L' = L → n' = n) : OffP Q a' n' := by
  intro x hx h0
  rcases h with ⟨h1, h2⟩ | ⟨g, h1, h2⟩
  · rw [h1] at hx
    exact ho x hx (by rw [← hn h2]; exact h0)
  · rw [h1] at hx
    cases hx
    exact hq g h2
/-- What the document's own Step answers of a machine that lies in such blocks. -/
theorem rstep_any (m : Ma) (k : Nat) (sy : List Sy) (v : Value) (w : World) (Q : Nat → Prop) (hv : MVp Q w v m sy) (hR : Runs m k) (hk : k ≤ 100000) (hq : ∀ g, w.heap.size ≤ g → Q g) :
    Calls Tryd.prog 8 #[v] w fun e w' => ∃ v', e = .returned (.tuple #[v', .bool (stepD m), .int .i64 (stepE m)]) ∧ Below w.heap.size w w' ∧ ((stepE m ≠ 0 ∧ v' = .agg zC) ∨ (stepE m = 0 ∧ MVp Q w' v' (stepM m) sy)) := by
  obtain ⟨ba, bc, s0, s2, ta, tc, rfl, h1, h2, h3, h4, h5, h6⟩ := hv
  have hbl := hR.bl
  have htl := hR.tl
  have hp := hR.pc
  have hst0 := hR.st0
  have hst1 := hR.st1
  unfold in32 at hp
  refine (step_any rDec_any trap_any m ba bc s0 sy.length s2 ta tc w ⟨hR.b0, hR.b1, by omega, by omega⟩ (by omega) (by omega) (by omega) (by omega) h1 h2).mono ?_
  rintro e w' ⟨hb, h⟩
  rcases h with ⟨hE, rfl⟩ | ⟨hE, ba', bc', ta', tc', rfl, hr, ht, hn1, hn2⟩
  · exact ⟨_, by rw [stepD_err hE], hb, .inl ⟨hE, rfl⟩⟩
  · exact ⟨_, by rw [hE], hb, .inr ⟨hE, ba', bc', s0, s2, ta', tc', rfl, hr, ht, h3.below hb (Nat.le_refl _), near_off hn1 h4 hq (fun e => by rw [e]), near_off hn2 h5 hq (fun e => by rw [e]), h6⟩⟩
/-- What the document's own Run answers. -/
def RrPost (w : World) (P : Nat → Prop) (n : Nat) (m : Ma) (sy : List Sy) (e : Ending) (w' : World) : Prop :=
  ∃ v', e = .returned (.tuple #[v', .int .i64 (runE n m)]) ∧ Below w.heap.size w w' ∧ ((runE n m ≠ 0 ∧ v' = .agg zC) ∨ (runE n m = 0 ∧ MVp (InQ w P) w' v' (runM n m) sy))

theorem zLitC : (#[.int .i64 0, .int .i64 0, .int .i64 0, .int .i64 0, .int .i64 0, .int .i64 0, .int .i64 0, .int .i64 0, .int .i64 0, .int .i64 0, .int .i64 0, .int .i64 0, .int .i64 0, .int .i64 0, .int .i64 0, .int .i64 0, .bool false, .int .i64 0, .int .i64 0, .int .i64 0, .slice none 0 0, .slice none 0 0, .slice none 0 0, .int .i64 0] : Array Value) = zC := rfl
/-- Behind the document's own Step, and the box of what it answered. -/
structure RX (w : World) (P : Nat → Prop) (sy : List Sy) (M : Ma) (q : Nat) (cx : Array Value) (X : World) : Prop where
  rr : RR w P sy M X
  bx : X.heap[q]? = some (.cells cx 29 (0, 0))
  lq : w.heap.size + 1 < q
theorem rx_of {w : World} {P : Nat → Prop} {sy : List Sy} {M : Ma} {W W1 : World} (h : RR w P sy M W) (hb : Below W.heap.size W W1) (cx : Array Value) : RX w P sy M W1.heap.size cx ((W1.alloc (.cells #[.int .i64 0, .int .i64 0, .int .i64 0, .int .i64 0, .int .i64 0, .int .i64 0, .int .i64 0, .int .i64 0, .int .i64 0, .int .i64 0, .int .i64 0, .int .i64 0, .int .i64 0, .int .i64 0, .int .i64 0, .int .i64 0, .bool false, .int .i64 0, .int .i64 0, .int .i64 0, .slice none 0 0, .slice none 0 0, .slice none 0 0, .int .i64 0] 29)).setRow W1.heap.size cx) := by
  obtain ⟨h1, h2⟩ := newbox W1 #[.int .i64 0, .int .i64 0, .int .i64 0, .int .i64 0, .int .i64 0, .int .i64 0, .int .i64 0, .int .i64 0, .int .i64 0, .int .i64 0, .int .i64 0, .int .i64 0, .int .i64 0, .int .i64 0, .int .i64 0, .int .i64 0, .bool false, .int .i64 0, .int .i64 0, .int .i64 0, .slice none 0 0, .slice none 0 0, .slice none 0 0, .int .i64 0] cx
  have hz := (Array.getElem?_eq_some_iff.1 h.res).1
  have hz1 := hb.size
  have hB : Below W.heap.size W ((W1.alloc (.cells #[.int .i64 0, .int .i64 0, .int .i64 0, .int .i64 0, .int .i64 0, .int .i64 0, .int .i64 0, .int .i64 0, .int .i64 0, .int .i64 0, .int .i64 0, .int .i64 0, .int .i64 0, .int .i64 0, .int .i64 0, .int .i64 0, .bool false, .int .i64 0, .int .i64 0, .int .i64 0, .slice none 0 0, .slice none 0 0, .slice none 0 0, .int .i64 0] 29)).setRow W1.heap.size cx) := hb.trans (h1.mono hb.size)
  obtain ⟨c, hc, hm⟩ := h.box
  exact ⟨⟨h.bel.trans (hB.mono h.bel.size), (hB.block _ hz).trans h.res, ⟨c, (hB.block _ (by omega)).trans hc, hm.next hB⟩⟩, h2, by omega⟩

theorem box24 {w : World} {P : Nat → Prop} {sy : List Sy} {M : Ma} {W : World} (h : RR w P sy M W) {co : Array Value} (hc : W.heap[w.heap.size]? = some (.cells co 29 (0, 0))) : co.size = 24 := by
  obtain ⟨c, h1, ba, bc, s0, s2, ta, tc, e, _⟩ := h.box
  rw [h1] at hc
  cases hc
  cases e
  rfl
theorem rr_put {w : World} {P : Nat → Prop} {sy : List Sy} {M M' : Ma} {X : World} {cx : Array Value} (h : RR w P sy M X) (hm : MVp (InQ w P) X (.agg cx) M' sy) (hn : ¬ InQ w P w.heap.size) : RR w P sy M' (X.setRow w.heap.size cx) := by
  obtain ⟨c, h1, _⟩ := h.box
  exact ⟨below_setRow h.bel (Nat.le_refl _) _, (setRow_other _ _ _ _ (by omega)).trans h.res, ⟨cx, setRow_heap _ _ _ _ _ _ h1, hm.row _ hn _⟩⟩

set_option maxHeartbeats 8000000 in
set_option maxRecDepth 100000 in
theorem rrun_in (m : Ma) (sy : List Sy) (v : Value) (n : Nat) (w : World) (P : Nat → Prop) (hv : MVp P w v m sy) (hP : ∀ b, P b → b < w.heap.size) (hR : Runs m 0) (hn : n ≤ 2000) :
    Calls Tryd.prog 16 #[v, .int .i64 (n : Int)] w (RrPost w P n m sy) := by
  have hvs : MVp (InQ w P) w v m sy := hv.mono fun b h => .inl h
  obtain ⟨c0, rfl⟩ : ∃ c, v = .agg c := by
    obtain ⟨ba, bc, s0, s2, ta, tc, e, _⟩ := hv
    exact ⟨_, e⟩
  obtain ⟨V, hV⟩ : ∃ V, V = (w.alloc (.cells c0 29)).alloc (.cells zC 29) := ⟨_, rfl⟩
  have hV0 : Below w.heap.size w V := by rw [hV]; exact (oalloc _ _).trans ((oalloc _ _).mono (by simp))
  have hV1 : V.heap[w.heap.size]? = some (.cells c0 29 (0, 0)) := by rw [hV, (oalloc _ _).block _ (by simp)]; exact blk_new _ _ _
  have hV2 : V.heap[w.heap.size + 1]? = some (.cells zC 29 (0, 0)) := by
    rw [hV]
    have := blk_new (w.alloc (.cells c0 29)) zC 29
    simpa using this
  have HRR : Hid (RR w P sy m V) := ⟨hV0, hV2, ⟨c0, hV1, hvs.next hV0⟩⟩
  have HV := Lib.hid hV.symm
  have HRA : Hid (RunAt n m 0 m) := ⟨hR, rfl, rfl, rfl⟩
  have HNQ := Lib.hid (inq_off hP)
  clear hV hV0 hV1 hV2 hvs hR hv hP
  rw [← zLitC] at HV
  have k1 : ¬ (n : Int) < 0 := by omega
  have k2 : ¬ (2000 : Int) < (n : Int) := by omega
  go_enter Tryd.func16, Tryd.ntmps16
  go_upto_region 1 with fail
  rw [HV.out]
  clear HV
  go_wp2
  go_loopw [17] (fun i wr => ∃ (k : Nat) (M : Ma), k ≤ n ∧ i = .int .i64 k ∧ Hid (RunAt n m k M) ∧ Hid (RR w P sy M wr)) (fun i _ => n - (intOf i).toNat)
  case atStart => exact ⟨0, m, Nat.zero_le _, rfl, HRA, HRR⟩
  case round =>
    obtain ⟨k, M, hk, rfl, HA, HB⟩ := hrel
    clear HRA HRR k1 k2
    by_cases hlt : k < n
    · have hk1 : (k : Int) < (n : Int) := by omega
      obtain ⟨c, hbx, hmv⟩ := HB.out.box
      obtain ⟨sz, al, z24⟩ : (Tryd.prog.info? 29).map (·.size) = some c.size ∧ c.all (·.oneCell') = true ∧ zC.size = c.size := by
        obtain ⟨ba, bc, s0, s2, ta, tc, e, _⟩ := hmv
        cases e
        exact ⟨mSize _ _ _ _ _ _, mAll _ _ _ _ _ _ _ _, rfl⟩
      have hz := (Array.getElem?_eq_some_iff.1 HB.out.res).1
      have HST := Lib.hid (rstep_any M k sy (.agg c) wr (InQ w P) hmv HA.out.rn (by omega) (fun g hg => .inr (by omega)))
      have HBX := Lib.hid hbx
      have HSZ := Lib.hid sz
      clear hbx hmv sz al z24
      by_cases hE : stepE M = 0
      · rw [hE] at HST
        cases hd : stepD M
        · rw [hd] at HST
          have HA2 := Lib.hid (HA.out.step hlt hE hd)
          clear hd hE
          go_upto_region 6 with (first | (refine wpList_load_row rfl 29 _ rfl w.heap.size rfl 29 c (0, 0) _ HBX.out Tryd.underlying29 rfl HSZ.out ?_) | (go_at_call 8; refine HST.out.mono ?_; rintro e w1 ⟨v', rfl, hb1, h1⟩; have h1 : MVp (InQ w P) w1 v' (stepM M) sy := (by rcases h1 with ⟨h, _⟩ | ⟨_, h⟩; exact absurd rfl h; exact h); obtain ⟨cx, rfl, sx, ax, zx⟩ : ∃ c, v' = .agg c ∧ (Tryd.prog.info? 29).map (·.size) = some c.size ∧ c.all (·.oneCell') = true ∧ zC.size = c.size := (by obtain ⟨ba, bc, s0, s2, ta, tc, e, _⟩ := h1; exact ⟨_, e, mSize _ _ _ _ _ _, mAll _ _ _ _ _ _ _ _, rfl⟩); have HX := Lib.hid (rx_of HB.out hb1 cx); have HMX : Hid (MVp (InQ w P) ((w1.alloc (.cells #[.int .i64 0, .int .i64 0, .int .i64 0, .int .i64 0, .int .i64 0, .int .i64 0, .int .i64 0, .int .i64 0, .int .i64 0, .int .i64 0, .int .i64 0, .int .i64 0, .int .i64 0, .int .i64 0, .int .i64 0, .int .i64 0, .bool false, .int .i64 0, .int .i64 0, .int .i64 0, .slice none 0 0, .slice none 0 0, .slice none 0 0, .int .i64 0] 29)).setRow w1.heap.size cx) (.agg cx) (stepM M) sy) := h1.next (newbox w1 #[.int .i64 0, .int .i64 0, .int .i64 0, .int .i64 0, .int .i64 0, .int .i64 0, .int .i64 0, .int .i64 0, .int .i64 0, .int .i64 0, .int .i64 0, .int .i64 0, .int .i64 0, .int .i64 0, .int .i64 0, .int .i64 0, .bool false, .int .i64 0, .int .i64 0, .int .i64 0, .slice none 0 0, .slice none 0 0, .slice none 0 0, .int .i64 0] cx).1; have HNB := Lib.hid (blk_new w1 #[.int .i64 0, .int .i64 0, .int .i64 0, .int .i64 0, .int .i64 0, .int .i64 0, .int .i64 0, .int .i64 0, .int .i64 0, .int .i64 0, .int .i64 0, .int .i64 0, .int .i64 0, .int .i64 0, .int .i64 0, .int .i64 0, .bool false, .int .i64 0, .int .i64 0, .int .i64 0, .slice none 0 0, .slice none 0 0, .slice none 0 0, .int .i64 0] 29); have SX := Lib.hid sx; have AX := Lib.hid ax; have ZX := Lib.hid zx; clear hb1 h1 sx ax zx) | (refine wpList_store_row rfl 29 _ _ rfl w1.heap.size cx rfl rfl 29 #[.int .i64 0, .int .i64 0, .int .i64 0, .int .i64 0, .int .i64 0, .int .i64 0, .int .i64 0, .int .i64 0, .int .i64 0, .int .i64 0, .int .i64 0, .int .i64 0, .int .i64 0, .int .i64 0, .int .i64 0, .int .i64 0, .bool false, .int .i64 0, .int .i64 0, .int .i64 0, .slice none 0 0, .slice none 0 0, .slice none 0 0, .int .i64 0] HNB.out SX.out ZX.out AX.out ?_))
          clear HNB HST HBX HB
          generalize w1.heap.size = q at *
          generalize World.setRow (World.alloc w1 _) _ _ = X at *
          obtain ⟨co, hco, _⟩ := HX.out.rr.box
          have ho := box24 HX.out.rr hco
          have HCO := Lib.hid hco
          have HFIN : Hid (RR w P sy (stepM M) (X.setRow w.heap.size cx)) := rr_put HX.out.rr HMX.out HNQ.out.1
          clear hco
          go_wp2_with (first | (refine wpList_load_row rfl 29 _ rfl q rfl 29 cx (0, 0) _ HX.out.bx Tryd.underlying29 rfl SX.out ?_) | (refine wpList_store_row rfl 29 _ _ rfl w.heap.size cx rfl rfl 29 co HCO.out SX.out (ho.trans ZX.out) AX.out ?_))
          exact ⟨⟨k + 1, stepM M, by omega, by go_num, HA2, HFIN⟩, by simp [intOf]; omega⟩
        · rw [hd] at HST
          have HA2 := Lib.hid (HA.out.fin hlt hE hd)
          clear hd hE
          go_upto_region 6 with (first | (refine wpList_load_row rfl 29 _ rfl w.heap.size rfl 29 c (0, 0) _ HBX.out Tryd.underlying29 rfl HSZ.out ?_) | (go_at_call 8; refine HST.out.mono ?_; rintro e w1 ⟨v', rfl, hb1, h1⟩; have h1 : MVp (InQ w P) w1 v' (stepM M) sy := (by rcases h1 with ⟨h, _⟩ | ⟨_, h⟩; exact absurd rfl h; exact h); obtain ⟨cx, rfl, sx, ax, zx⟩ : ∃ c, v' = .agg c ∧ (Tryd.prog.info? 29).map (·.size) = some c.size ∧ c.all (·.oneCell') = true ∧ zC.size = c.size := (by obtain ⟨ba, bc, s0, s2, ta, tc, e, _⟩ := h1; exact ⟨_, e, mSize _ _ _ _ _ _, mAll _ _ _ _ _ _ _ _, rfl⟩); have HX := Lib.hid (rx_of HB.out hb1 cx); have HMX : Hid (MVp (InQ w P) ((w1.alloc (.cells #[.int .i64 0, .int .i64 0, .int .i64 0, .int .i64 0, .int .i64 0, .int .i64 0, .int .i64 0, .int .i64 0, .int .i64 0, .int .i64 0, .int .i64 0, .int .i64 0, .int .i64 0, .int .i64 0, .int .i64 0, .int .i64 0, .bool false, .int .i64 0, .int .i64 0, .int .i64 0, .slice none 0 0, .slice none 0 0, .slice none 0 0, .int .i64 0] 29)).setRow w1.heap.size cx) (.agg cx) (stepM M) sy) := h1.next (newbox w1 #[.int .i64 0, .int .i64 0, .int .i64 0, .int .i64 0, .int .i64 0, .int .i64 0, .int .i64 0, .int .i64 0, .int .i64 0, .int .i64 0, .int .i64 0, .int .i64 0, .int .i64 0, .int .i64 0, .int .i64 0, .int .i64 0, .bool false, .int .i64 0, .int .i64 0, .int .i64 0, .slice none 0 0, .slice none 0 0, .slice none 0 0, .int .i64 0] cx).1; have HNB := Lib.hid (blk_new w1 #[.int .i64 0, .int .i64 0, .int .i64 0, .int .i64 0, .int .i64 0, .int .i64 0, .int .i64 0, .int .i64 0, .int .i64 0, .int .i64 0, .int .i64 0, .int .i64 0, .int .i64 0, .int .i64 0, .int .i64 0, .int .i64 0, .bool false, .int .i64 0, .int .i64 0, .int .i64 0, .slice none 0 0, .slice none 0 0, .slice none 0 0, .int .i64 0] 29); have SX := Lib.hid sx; have AX := Lib.hid ax; have ZX := Lib.hid zx; clear hb1 h1 sx ax zx) | (refine wpList_store_row rfl 29 _ _ rfl w1.heap.size cx rfl rfl 29 #[.int .i64 0, .int .i64 0, .int .i64 0, .int .i64 0, .int .i64 0, .int .i64 0, .int .i64 0, .int .i64 0, .int .i64 0, .int .i64 0, .int .i64 0, .int .i64 0, .int .i64 0, .int .i64 0, .int .i64 0, .int .i64 0, .bool false, .int .i64 0, .int .i64 0, .int .i64 0, .slice none 0 0, .slice none 0 0, .slice none 0 0, .int .i64 0] HNB.out SX.out ZX.out AX.out ?_))
          clear HNB HST HBX HB
          generalize w1.heap.size = q at *
          generalize World.setRow (World.alloc w1 _) _ _ = X at *
          go_wp2_with (first | (refine wpList_load_row rfl 29 _ rfl q rfl 29 cx (0, 0) _ HX.out.bx Tryd.underlying29 rfl SX.out ?_) | (refine wpList_store_row rfl 29 _ _ rfl (w.heap.size + 1) cx rfl rfl 29 zC HX.out.rr.res SX.out ZX.out AX.out ?_))
          refine bodyPost_ret (v := .tuple #[.agg cx, .int .i64 0]) (res_r Tryd.results16 rfl rfl (setRow_heap _ _ _ _ _ _ HX.out.rr.res) SX.out) rfl ⟨_, by rw [HA2.out.1], below_setRow HX.out.rr.bel (by omega) _, .inr ⟨HA2.out.1, ?_⟩⟩
          rw [HA2.out.2]
          exact HMX.out.row _ HNQ.out.2 _
      · have HA2 := Lib.hid (HA.out.bad hlt hE)
        have HE := Lib.hid hE
        have hE1 : (stepE M != 0) = true := bne_iff_ne.2 hE
        clear hE
        generalize stepE M = ee at *
        go_upto_region 6 with (first | (refine wpList_load_row rfl 29 _ rfl w.heap.size rfl 29 c (0, 0) _ HBX.out Tryd.underlying29 rfl HSZ.out ?_) | (go_at_call 8; refine HST.out.mono ?_; rintro e w1 ⟨v', rfl, hb1, h1⟩; obtain rfl : v' = .agg zC := (by rcases h1 with ⟨_, h⟩ | ⟨h, _⟩; exact h; exact absurd h HE.out); have HX := Lib.hid (rx_of HB.out hb1 zC); have HNB := Lib.hid (blk_new w1 #[.int .i64 0, .int .i64 0, .int .i64 0, .int .i64 0, .int .i64 0, .int .i64 0, .int .i64 0, .int .i64 0, .int .i64 0, .int .i64 0, .int .i64 0, .int .i64 0, .int .i64 0, .int .i64 0, .int .i64 0, .int .i64 0, .bool false, .int .i64 0, .int .i64 0, .int .i64 0, .slice none 0 0, .slice none 0 0, .slice none 0 0, .int .i64 0] 29); clear hb1 h1) | (refine wpList_store_row rfl 29 _ _ rfl w1.heap.size zC rfl rfl 29 #[.int .i64 0, .int .i64 0, .int .i64 0, .int .i64 0, .int .i64 0, .int .i64 0, .int .i64 0, .int .i64 0, .int .i64 0, .int .i64 0, .int .i64 0, .int .i64 0, .int .i64 0, .int .i64 0, .int .i64 0, .int .i64 0, .bool false, .int .i64 0, .int .i64 0, .int .i64 0, .slice none 0 0, .slice none 0 0, .slice none 0 0, .int .i64 0] HNB.out zSize rfl zAll ?_))
        clear HNB HST HBX HB
        generalize w1.heap.size = q at *
        generalize World.setRow (World.alloc w1 _) _ _ = X at *
        go_wp2_with (refine wpList_store_row rfl 29 _ _ rfl (w.heap.size + 1) #[.int .i64 0, .int .i64 0, .int .i64 0, .int .i64 0, .int .i64 0, .int .i64 0, .int .i64 0, .int .i64 0, .int .i64 0, .int .i64 0, .int .i64 0, .int .i64 0, .int .i64 0, .int .i64 0, .int .i64 0, .int .i64 0, .bool false, .int .i64 0, .int .i64 0, .int .i64 0, .slice none 0 0, .slice none 0 0, .slice none 0 0, .int .i64 0] rfl rfl 29 zC HX.out.rr.res zSize rfl zAll ?_)
        exact bodyPost_ret (v := .tuple #[.agg zC, .int .i64 ee]) (res_r Tryd.results16 rfl rfl (setRow_heap _ _ _ _ _ _ HX.out.rr.res) zSize) rfl ⟨_, by rw [HA2.out], below_setRow HX.out.rr.bel (by omega) _, .inl ⟨by rw [HA2.out]; exact HE.out, rfl⟩⟩
    · have hk1 : ¬ (k : Int) < (n : Int) := by omega
      have hke : k = n := by omega
      subst hke
      have HA2 := Lib.hid HA.out.out
      go_wp2_with (refine wpList_store_row rfl 29 _ _ rfl (w.heap.size + 1) #[.int .i64 0, .int .i64 0, .int .i64 0, .int .i64 0, .int .i64 0, .int .i64 0, .int .i64 0, .int .i64 0, .int .i64 0, .int .i64 0, .int .i64 0, .int .i64 0, .int .i64 0, .int .i64 0, .int .i64 0, .int .i64 0, .bool false, .int .i64 0, .int .i64 0, .int .i64 0, .slice none 0 0, .slice none 0 0, .slice none 0 0, .int .i64 0] rfl rfl 29 zC HB.out.res zSize rfl zAll ?_)
      exact bodyPost_ret (v := .tuple #[.agg zC, .int .i64 13]) (res_r Tryd.results16 rfl rfl (setRow_heap _ _ _ _ _ _ HB.out.res) zSize) rfl ⟨_, by rw [HA2.out], below_setRow HB.out.bel (by omega) _, .inl ⟨by rw [HA2.out]; decide, rfl⟩⟩

end Go.Proofs.YtabepbaldadmgaaDoor
