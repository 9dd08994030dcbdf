import Derived.Test.YtfmljailbebfgaaGreatDoorPut45
set_option maxHeartbeats 4000000
set_option maxRecDepth 100000
namespace Go.Proofs.YtfmljailbebfgaaGreatDoor
open Go.RowKit
theorem S0.grown {x : SU} {w W : World} {gi : Nat} {cur : Array Value} (h : S0 x w) (hg : w.grownBy W (some gi)) (hgi : w.heap[gi]? = some (.cells cur 200 (0, 0))) (hlt : x.gu < gi) : S0 x W := by
 refine ⟨?_, h.lb.grown hg ?_, h.laid.below (B := gi) ⟨hg.os, hg.tape, hg.output, hg.size, fun i hi => hg.block i (by have := qC hgi; omega) (by intro e; injection e with e; omega)⟩ (by have := h.hi; omega), h.hi, h.nn, h.bd, h.lab⟩
 ·obtain ⟨cs, k1, k2⟩ := h.pl
  refine ⟨cs, ?_, k2⟩
  rw [hg.block _ (qC k1) (by intro e; injection e with e; subst e; rw [hgi] at k1; injection k1 with k1; injection k1 with _ e2; exact absurd e2 (by decide))]
  exact k1
 ·intro e
  injection e with e
  obtain ⟨D, ⟨es, ck, hb, F⟩, hd⟩ := h.lb
  subst e
  rw [hgi] at hb
  cases hb
theorem qHN.go {w W : World} {tv : Value} {p : Int} (h : qHN w tv p) (hb : Below w.heap.size w W) : qHN W tv p := by
 obtain ⟨f, caps, rfl, hent, h⟩ := h
 exact ⟨f, caps, rfl, hent, fun W' hb' => h W' (hb.trans (hb'.mono hb.size))⟩
def FarOk (x : SU) (w : World) (u : Un) (i : It) : Prop := match i.gen with
 | .lead op _ _ _ q => Isa.qK op = 4 -> (i.size = 2 \/ i.size = 6) /\ qEE x w q /\ ∃ p, qDS u x.ps q = .ok p
 | _ => True
theorem qGj (x : SU) (rv : Value) (B : Nat) (its : List It) (l : List (It × Value × Value)) (w0 w : World) (hup : ∀ x' fa by', GenR w0 x.gu x' fa by' -> GenR w x.gu x' fa by') (hs : S0 x w) (hlt : x.gu < B) (hu : w.heap[x.gu]? = some (.cells (x.C rv) 143 (0, 0))) (hrow : w.ownsRow B 200 6 x.iv its.length (itC l)) (hl : l.map (·.1) = its) (hg : ∀ p, p ∈ l -> GenR w0 x.gu p.1 p.2.1 p.2.2) (hn : its.length = x.n) (hok : ∀ i, i ∈ its -> FarOk x w ⟨x.labs, its, x.firsts⟩ i) :
  Calls Tryz.prog 100 #[.pointer (some ⟨x.gu, 0, none⟩)] w fun r w' => r = .returned (.bool (qAr ⟨x.labs, its, x.firsts⟩ x.ps 0 its).2) /\ (∃ l', l'.map (·.1) = (qAr ⟨x.labs, its, x.firsts⟩ x.ps 0 its).1 /\ w'.ownsRow B 200 6 x.iv its.length (itC l') /\ ∀ p, p ∈ l' -> GenR w0 x.gu p.1 p.2.1 p.2.2) /\ w.grownBy w' x.iv.ownBlock := by
 obtain ⟨ia, ic, hiv⟩ := qG hrow
 have c4 : w.cell? ⟨x.gu, 4, none⟩ = some x.iv := qB hu rfl
 have hgw := qC hu
 rw [hiv] at c4
 have HS := Lib.hid hs
 have HUP := Lib.hid hup
 have HU := Lib.hid hu
 have HOK := Lib.hid hok
 have HI : Hid (∃ l', l'.map (·.1) = qDZ ⟨x.labs, its, x.firsts⟩ x.ps its 0 /\ w.ownsRow B 200 6 x.iv its.length (itC l') /\ ∀ p, p ∈ l' -> GenR w0 x.gu p.1 p.2.1 p.2.2) := ⟨l, by simpa [qDZ, qAr] using hl, hrow, hg⟩
 have HN := Lib.hid hn
 have HR0 : Hid (∀ g, x.iv.ownBlock = some g -> ∃ cur, w.heap[g]? = some (.cells cur 200 (0, 0)) /\ B <= g) := fun g hg => by
  rcases hrow.2 with ⟨hv, _⟩ | ⟨g', cap, cur, hv, h1, h2, _⟩
  ·rw [hv] at hg; simp [Value.ownBlock] at hg
  ·rw [hv] at hg; simp only [Value.ownBlock, Option.some.injEq] at hg; subst hg; exact ⟨cur, h2, h1⟩
 have hln : its.length <= 100000 := by have := hs.nn; omega
 clear hs hu hrow hl hg hok hn hup
 have hnn : ∀ W, (binOp .neq 76 .nilFunc .nilFunc).run Tryz.prog W = .ok (.bool false) W := fun W => by kernel_rfl
 have hnf : ∀ gt W, (binOp .neq 76 (.func (.func 202) #[] #[.pointer (some ⟨gt, 0, none⟩)]) .nilFunc).run Tryz.prog W = .ok (.bool true) W := fun gt W => by kernel_rfl
 have hent := ent_far
 go_enter Tryz.func100, Tryz.ntmps100
 go_wp2_with fail
 go_loopw [3, 11] (fun bv iv wr => ∃ k : Nat, k <= its.length /\ iv = .int .i64 k /\ bv = .bool (qAr ⟨x.labs, its, x.firsts⟩ x.ps 0 (its.take k)).2 /\ Hid (∃ l', l'.map (·.1) = qDZ ⟨x.labs, its, x.firsts⟩ x.ps its k /\ wr.ownsRow B 200 6 x.iv its.length (itC l') /\ ∀ p, p ∈ l' -> GenR w0 x.gu p.1 p.2.1 p.2.2) /\ Hid (w.grownBy wr x.iv.ownBlock)) (fun _ iv _ => its.length - (intOf iv).toNat)
 case atStart => exact ⟨0, Nat.zero_le _, rfl, by simp [qAr], HI, World.grownBy.refl _ _⟩
 case round =>
  obtain ⟨k, hk, rfl, rfl, HL, HG⟩ := hrel
  by_cases hkl : k < its.length
  ·have hk' : (k : Int) < its.length := by omega
   obtain ⟨l', hl1, hl2, hl3⟩ := HL.out
   have hll : l'.length = its.length := by have := congrArg List.length hl1; simpa [qG7] using this
   have hl2' := hl2
   rw [hiv] at hl2'
   obtain ⟨g, cur, rfl, hgc, hcells⟩ := qDR hl2' hll hkl
   obtain ⟨hgl, i0, i1, i2, i3, i4, i5⟩ := hcells wr rfl
   have hlk : l'[k].1 = its[k] := by
    have h1 := qD0 ⟨x.labs, its, x.firsts⟩ x.ps its k hkl
    rw [<- h1]
    simp only [<- hl1, List.getElem_map]
   have hGk0 := hl3 l'[k] (List.getElem_mem _)
   have hGk := HUP.out _ _ _ hGk0
   have HMS := Lib.hid (qKE ⟨x.labs, its, x.firsts⟩ x.ps its k hkl)
   have HIS := Lib.hid (qI5 ⟨x.labs, its, x.firsts⟩ x.ps its k hkl)
   generalize hb0 : (qAr ⟨x.labs, its, x.firsts⟩ x.ps 0 (its.take k)).2 = b0 at *
   have HNF : Hid (farU ⟨x.labs, its, x.firsts⟩ x.ps (x.ps.getD k 0) its[k].gen = false /\ l'[k].2.1 = .nilFunc \/ ∃ gt tv op n m imm q p, its[k].gen = .lead op n m imm q /\ (its[k].size = 2 \/ its[k].size = 6) /\ l'[k].2.1 = .func (.func 202) #[] #[.pointer (some ⟨gt, 0, none⟩)] /\ w.heap[gt]? = some (.cells #[tv] 270 (0, 0)) /\ qFf w x.gu tv q /\ qEE x w q /\ qDS ⟨x.labs, its, x.firsts⟩ x.ps q = .ok p /\ farU ⟨x.labs, its, x.firsts⟩ x.ps (x.ps.getD k 0) its[k].gen = !(qEn (x.ps.getD k 0) p)) := by
    have hfk := HOK.out its[k] (List.getElem_mem _)
    have hG2 := hGk
    rw [hlk] at hG2
    unfold GenR at hG2
    unfold FarOk at hfk
    cases hx : its[k].gen with
    | fill => rw [hx] at hG2; exact .inl ⟨rfl, hG2.1⟩
    | num nm n => rw [hx] at hG2; exact .inl ⟨rfl, hG2.1⟩
    | plain op n m imm => rw [hx] at hG2; exact .inl ⟨rfl, hG2.1⟩
    | lead op n m imm q =>
      rw [hx] at hG2 hfk
      obtain ⟨gt, gi, tv, h0, e, a, b, c⟩ := hG2
      by_cases h4 : Isa.qK op = 4
      ·rw [if_pos h4] at h0
       obtain ⟨k0, k1, p, k2⟩ := hfk h4
       exact .inr ⟨gt, tv, op, n, m, imm, q, p, rfl, k0, h0, a, c, k1, k2, by simp only [farU, h4, if_true, k2]⟩
      ·rw [if_neg h4] at h0
       exact .inl ⟨by simp only [farU, h4, if_false], h0⟩
   obtain ⟨_, fb1, fb2, fb3, hf2⟩ := hGk.shape
   rw [hlk] at i0 i1 i2 i3
   rw [hf2] at i5
   have HL1 := Lib.hid hl1
   have HL2 := Lib.hid hl2
   have HL3 := Lib.hid hl3
   have HGC := Lib.hid hgc
   rcases HNF.out with ⟨hff, hf1⟩ | ⟨gt, tv, op, nn, mm, imm, q, p, hgen, hsz, hf1, hgt, hgr, hgo, hpp, hff⟩
   ·rw [hf1] at i4
    have hmf : qEP ⟨x.labs, its, x.firsts⟩ x.ps k its[k] = false := by
     unfold qEP
     rw [hff, Bool.and_false]
    have HMF := Lib.hid hmf
    have HLG : Hid (long1 ⟨x.labs, its, x.firsts⟩ x.ps k its[k] = its[k]) := by
     unfold Hid long1
     rw [hmf]
     rfl
    generalize its[k].line = li at *
    generalize its[k].size = sz at *
    generalize its[k].upTo = up at *
    generalize its[k].align = al at *
    clear hcells hf1 hf2 hgc hlk hGk hGk0 HUP hl1 hl2 hl2' hl3 HL HOK HS HU HI hmf HNF hff
    go_wp2_with fail
    go_region
    all_goals
     go_wp2
     refine ⟨⟨k + 1, by omega, by go_num, by rw [HMS.out, HMF.out, Bool.or_false], ⟨l', ?_, Sc.qU HL2.out (qD _ _).drew (Nat.le_refl _), HL3.out⟩, gtrans HG.out (gbelow _ (qD _ _).drew (Nat.le_refl _))⟩, by simp [intOf]; omega⟩
     rw [HIS.out, HLG.out, HL1.out]
     have := qD0 ⟨x.labs, its, x.firsts⟩ x.ps its k hkl
     rw [<- this, List.set_getElem_self]
   ·rw [hf1] at i4
    have hub : wr.heap[x.gu]? = some (.cells (x.C rv) 143 (0, 0)) := (HG.out.block _ hgw (by rw [hiv]; simp only [Value.ownBlock]; intro e; injection e with e; have := (HL2.out.lt g (by rw [hiv]; rfl)).1; omega)).trans HU.out
    have d4 : wr.cell? ⟨x.gu, 4, none⟩ = some (.slice (some ⟨g, 0, none⟩) its.length ic) := by rw [<- hiv]; exact qB hub rfl
    have d6 : wr.cell? ⟨x.gu, 6, none⟩ = some (.slice (some ⟨x.gp, 0, none⟩) (x.n + 1) (x.n + 1)) := qB hub rfl
    have hgu := qC hub
    have hkn : k < x.n + 1 := by have := HN.out; omega
    obtain ⟨cur0, hg0, hBg⟩ := HR0.out g (by rw [hiv]; rfl)
    have hgr0 : w.grownBy wr (some g) := by have := HG.out; rw [hiv] at this; exact this
    have hS0 : S0 x wr := HS.out.grown hgr0 hg0 (by omega)
    have kp : ∀ {q : Nat} {c : Array Value} {t : TypeId}, w.heap[q]? = some (.cells c t (0, 0)) -> t ≠ 200 -> wr.heap[q]? = some (.cells c t (0, 0)) := fun {q c t} hq ht => by
     rw [hgr0.block q (qC hq) (by intro e; injection e with e; subst e; rw [hg0] at hq; injection hq with hq; injection hq with _ e2; exact ht e2.symm)]
     exact hq
    have hgo' : qEE x wr q := by
     cases q with
     | val nm add => exact hgo
     | slot gq i =>
       obtain ⟨o1, vv, mv, o2⟩ := hgo
       exact ⟨o1, vv, mv, kp o2 (by decide)⟩
    have hTW := qCh x rv tv q its p wr hS0 hub (hgr.stays fun {q c t} a ht => kp a (by rintro rfl; exact absurd ht (by decide))) hgo' hpp
    have hbd := qKU x wr its q p hS0 hgo' hpp
    have hb1 := hS0.bd k
    have HFAR : Hid (∀ W, Below wr.heap.size wr W -> Calls Tryz.prog 202 #[.int .i64 (x.ps.getD k 0), .pointer (some ⟨gt, 0, none⟩)] W fun r w' => r = .returned (.bool (!(qEn (x.ps.getD k 0) p))) /\ Below W.heap.size W w') := fun W hb => far1_any gt tv _ p W (hS0.laid.below hb hS0.laid.sz) (by rw [hb.block _ (qC (kp hgt (by decide)))]; exact kp hgt (by decide)) (hTW.go hb) hb1.1 hb1.2 (by omega) (by omega)
    have hpl : wr.cell? ⟨x.gp, k, none⟩ = some (.int .i64 (x.ps.getD k 0)) := by
     obtain ⟨cs, k1, _, _, k4⟩ := hS0.pl
     exact qB k1 (k4 k hkn)
    have hgpl : x.gp < wr.heap.size := by obtain ⟨cs, k1, _⟩ := hS0.pl; exact qC k1
    have hfz : wr.frozen? ⟨g, k * 6 + 1, none⟩ = false := qE HGC.out
    have hne : x.gu ≠ g := by omega
    have hngp : x.gp ≠ g := by
     rintro rfl
     obtain ⟨cs, k1, _⟩ := hS0.pl
     rw [HGC.out] at k1
     injection k1 with k1
     injection k1 with _ e2
     exact absurd e2 (by decide)
    have HGEN := Lib.hid hgen
    have HMU : Hid (qEP ⟨x.labs, its, x.firsts⟩ x.ps k its[k] = (decide (its[k].size < 6) && !(qEn (x.ps.getD k 0) p))) := by
     unfold Hid qEP
     rw [hff]
    have HLK := Lib.hid hlk
    have HGK := Lib.hid hGk0
    generalize x.ps.getD k 0 = pk at *
    clear hTW hbd hS0 kp hgo' hub hcells hf1 hf2 hgc hl1 hl2 hl2' hl3 HL HOK HS HU HI HNF hff hgen hgt hgr hgo hpp hgr0 hGk hGk0 HUP
    rcases hsz with hsz | hsz
    ·generalize hfar : (!(qEn pk p)) = fr at *
     have HMF : Hid (qEP ⟨x.labs, its, x.firsts⟩ x.ps k its[k] = fr) := by
      unfold Hid
      rw [HMU.out, hsz]
      rfl
     have HNO : Hid (∀ w4, Below wr.heap.size wr w4 -> fr = false -> (∃ l'', l''.map (·.1) = qDZ ⟨x.labs, its, x.firsts⟩ x.ps its (k + 1) /\ w4.ownsRow B 200 6 x.iv its.length (itC l'') /\ ∀ p, p ∈ l'' -> GenR w0 x.gu p.1 p.2.1 p.2.2) /\ w.grownBy w4 x.iv.ownBlock) := fun w4 hb hfr => by
      refine ⟨⟨l', ?_, Sc.qU HL2.out hb (Nat.le_refl _), HL3.out⟩, gtrans HG.out (gbelow _ hb (Nat.le_refl _))⟩
      have hm := HMF.out
      rw [hfr] at hm
      rw [HIS.out, HL1.out, long1, hm]
      have := qD0 ⟨x.labs, its, x.firsts⟩ x.ps its k hkl
      simp only [Bool.false_eq_true, if_false]
      rw [<- this, List.set_getElem_self]
     have HYE : Hid (∀ w4, Below wr.heap.size wr w4 -> fr = true -> (∃ l'', l''.map (·.1) = qDZ ⟨x.labs, its, x.firsts⟩ x.ps its (k + 1) /\ (w4.setCell ⟨g, k * 6 + 1, none⟩ (.int .i64 6)).ownsRow B 200 6 x.iv its.length (itC l'') /\ ∀ p, p ∈ l'' -> GenR w0 x.gu p.1 p.2.1 p.2.2) /\ w.grownBy (w4.setCell ⟨g, k * 6 + 1, none⟩ (.int .i64 6)) x.iv.ownBlock) := fun w4 hb hfr => by
      have hm := HMF.out
      rw [hfr] at hm
      have hkl2 : k < l'.length := by omega
      refine ⟨⟨l'.set k ({ l'[k].1 with size := 6 }, l'[k].2), ?_, ?_, ?_⟩, gtrans (gtrans HG.out (gbelow _ hb (Nat.le_refl _))) (by rw [hiv]; exact gset _ _ _ _)⟩
      ·rw [List.map_set, HL1.out, HIS.out, long1, hm]
       simp only [if_true, HLK.out]
      ·rw [qKm l' k hkl2 6, hiv]
       have hr4 := Sc.qU HL2.out hb (Nat.le_refl _)
       rw [hiv] at hr4
       exact row_put hr4 _
      ·intro p hp
       rcases List.mem_or_eq_of_mem_set hp with hp | rfl
       ·exact HL3.out p hp
       ·have hge : l'[k].1.gen = .lead op nn mm imm q := by rw [HLK.out]; exact HGEN.out
        have := HGK.out
        unfold GenR at this ⊢
        rw [hge] at this
        simp only [hge]
        exact this
     clear HMU hlk hfar
     rw [hsz] at i1
     generalize its[k].line = li at *
     generalize its[k].upTo = up at *
     generalize its[k].align = al at *
     go_wp2_with fail
     have hb3 : Below wr.heap.size wr (wr.alloc (.cells #[.int .i64 li, .int .i64 2, .int .i64 up, .int .i64 al, .func (.func 202) #[] #[.pointer (some ⟨gt, 0, none⟩)], .func fb1 fb2 fb3] 200)) := qD _ _
     have x3 : (wr.alloc (.cells #[.int .i64 li, .int .i64 2, .int .i64 up, .int .i64 al, .func (.func 202) #[] #[.pointer (some ⟨gt, 0, none⟩)], .func fb1 fb2 fb3] 200)).heap[wr.heap.size]? = some (.cells #[.int .i64 li, .int .i64 2, .int .i64 up, .int .i64 al, .func (.func 202) #[] #[.pointer (some ⟨gt, 0, none⟩)], .func fb1 fb2 fb3] 200 (0, 0)) := qI _ _ rfl
     generalize wr.alloc (.cells #[.int .i64 li, .int .i64 2, .int .i64 up, .int .i64 al, .func (.func 202) #[] #[.pointer (some ⟨gt, 0, none⟩)], .func fb1 fb2 fb3] 200) = W3 at *
     have y1 : W3.cell? ⟨wr.heap.size, 1, none⟩ = some (.int .i64 2) := qB x3 rfl
     have y4 : W3.cell? ⟨wr.heap.size, 4, none⟩ = some (.func (.func 202) #[] #[.pointer (some ⟨gt, 0, none⟩)]) := qB x3 rfl
     have hz3 := qC x3
     have e6 := (hb3.cell (p := ⟨x.gu, 6, none⟩) hgu).trans d6
     have ep := (hb3.cell (p := ⟨x.gp, k, none⟩) hgpl).trans hpl
     have hgu3 : x.gu < W3.heap.size := by omega
     have hgp3 : x.gp < W3.heap.size := by omega
     have HB3 := Lib.hid hb3
     have HF3 := Lib.hid fun W (hb : Below W3.heap.size W3 W) => HFAR.out W (HB3.out.trans (hb.mono HB3.out.size))
     have D4 := Lib.hid d4
     have I1 := Lib.hid i1
     clear hb3 x3 i0 i1 i2 i3 i4 i5 d4 d6 hpl HFAR c4 hfz
     generalize wr.heap.size = gx at *
     go_region_with (refine (HF3.out _ (Below.refl _ _).drew).mono ?_; rintro e w4 ⟨rfl, hb4⟩; have hb34 : Below gx wr w4 := HB3.out.trans (((Below.refl W3.heap.size W3).drew.trans hb4).mono (by omega)); have e4 := (hb34.cell (p := ⟨x.gu, 4, none⟩) hgu).trans D4.out; have s1 := (hb34.cell (p := ⟨g, k * 6 + 1, none⟩) hgl).trans I1.out; have t4 := (hb34.block g hgl).trans HGC.out; have f1 : w4.frozen? ⟨g, k * 6 + 1, none⟩ = false := qE t4; have hgw4 := qC t4; have hgu4 : x.gu < w4.heap.size := (by have := hb4.size; simp at this; omega); have HB34 := Lib.hid hb34; clear hb4 hb34 t4)
     all_goals
      cases fr
      ·obtain ⟨k1, k2⟩ := HNO.out w4 HB34.out rfl
       have K1 := Lib.hid k1
       have K2 := Lib.hid k2
       clear k1 k2
       go_wp2
       exact ⟨⟨k + 1, by omega, by go_num, by rw [HMS.out, HMF.out, Bool.or_false], K1, K2⟩, by simp [intOf]; omega⟩
      ·obtain ⟨k1, k2⟩ := HYE.out w4 HB34.out rfl
       have K1 := Lib.hid k1
       have K2 := Lib.hid k2
       clear k1 k2
       go_wp2
       exact ⟨⟨k + 1, by omega, by go_num, by rw [HMS.out, HMF.out, Bool.or_true], K1, K2⟩, by simp [intOf]; omega⟩
    ·have hmf : qEP ⟨x.labs, its, x.firsts⟩ x.ps k its[k] = false := by
      rw [HMU.out, hsz]
      rfl
     have HMF := Lib.hid hmf
     have HLG : Hid (long1 ⟨x.labs, its, x.firsts⟩ x.ps k its[k] = its[k]) := by
      unfold Hid long1
      rw [hmf]
      rfl
     clear hmf HMU HLK hlk
     rw [hsz] at i1
     generalize its[k].line = li at *
     generalize its[k].upTo = up at *
     generalize its[k].align = al at *
     go_wp2_with fail
     go_region
     all_goals
      go_wp2
      refine ⟨⟨k + 1, by omega, by go_num, by rw [HMS.out, HMF.out, Bool.or_false], ⟨l', ?_, Sc.qU HL2.out (qD _ _).drew (Nat.le_refl _), HL3.out⟩, gtrans HG.out (gbelow _ (qD _ _).drew (Nat.le_refl _))⟩, by simp [intOf]; omega⟩
      rw [HIS.out, HLG.out, HL1.out]
      have := qD0 ⟨x.labs, its, x.firsts⟩ x.ps its k hkl
      rw [<- this, List.set_getElem_self]
  ·obtain rfl : k = its.length := by omega
   have hk' : ¬ ((its.length : Nat) : Int) < its.length := by omega
   have HL2 := HL
   clear HL
   rw [List.take_length]
   go_wp2
   go_ret
   obtain ⟨l', q1, q2, q3⟩ := HL2.out
   refine ⟨rfl, ⟨l', ?_, by rw [<- hiv]; exact q2, fun a b c h => q3 (a, b, c) h⟩, by rw [<- hiv]; exact HG.out⟩
   rw [q1, qDZ, List.take_length, List.drop_length, List.append_nil]
def qGy (labs : List (List UInt8 × Nat)) (i : It) : Prop := match i.gen with
 | .lead op _ _ _ q => Isa.qK op = 4 -> (i.size = 2 \/ i.size = 6) /\ ∃ nm add k, q = .val nm add /\ nm ≠ [] /\ nm.length <= maxLen /\ -100000000000 <= add /\ add <= 100000000000 /\ qP nm labs = some k
 | _ => True
structure LY (w W : World) (gu gp mb n : Nat) (nv pp rv : Value) (ln : Int) (labs : List (List UInt8 × Nat)) (its : List It) : Prop where
 it : ∃ iv l, W.heap[gu]? = some (.cells (uC (.slice none 0 0) ln nv (.map (some mb)) iv pp (.slice (some ⟨gp, 0, none⟩) (n + 1) (n + 1)) rv) 143 (0, 0)) /\ W.ownsRow (gu + 1) 200 6 iv its.length (itC l) /\ l.map (·.1) = its /\ ∀ p, p ∈ l -> GenR w gu p.1 p.2.1 p.2.2
 pl : PlR W gp n 0 []
 lb : LbR W mb labs
 la : Isa.Laid W
 km : qBm w W
 bl : Below gu w W
 n : its.length = n
section
variable {w W : World} {gu gp mb n : Nat} {nv pp rv : Value} {ln : Int} {labs : List (List UInt8 × Nat)} {its : List It}
theorem LY.gen {x : It} {fa by' : Value} (h : LY w W gu gp mb n nv pp rv ln labs its) (hg : GenR w gu x fa by') : GenR W gu x fa by' :=
 hg.stays fun {q c t} a ht => h.km.2 q _ a (by rintro c' f e; injection e with _ e2; subst e2; exact absurd ht (by decide)) (by rintro c' f e; injection e with _ e2; subst e2; exact absurd ht (by decide))
theorem LY.ur (h : LY w W gu gp mb n nv pp rv ln labs its) : UR W (gu + 1) gu (.slice none 0 0) ln nv (.map (some mb)) pp (.slice (some ⟨gp, 0, none⟩) (n + 1) (n + 1)) rv its := by
 obtain ⟨iv, l, u1, u2, u3, u4⟩ := h.it
 exact ⟨by omega, qC u1, iv, l, u1, u2, u3, fun p hp => h.gen (u4 p hp)⟩
theorem LY.grown {W' : World} {its' : List It} {g : Nat} {cur : Array Value} {t : TypeId} (h : LY w W gu gp mb n nv pp rv ln labs its) (hg : W.grownBy W' (some g)) (ht : W.heap[g]? = some (.cells cur t (0, 0))) (hlt : gu < g) (hty : t = 200 \/ w.heap.size <= g)
  (hit : ∃ iv l, W'.heap[gu]? = some (.cells (uC (.slice none 0 0) ln nv (.map (some mb)) iv pp (.slice (some ⟨gp, 0, none⟩) (n + 1) (n + 1)) rv) 143 (0, 0)) /\ W'.ownsRow (gu + 1) 200 6 iv its'.length (itC l) /\ l.map (·.1) = its' /\ ∀ p, p ∈ l -> GenR w gu p.1 p.2.1 p.2.2) (hpl : PlR W' gp n 0 []) (hn : its'.length = n) (hi : max 1 4 < gu) : LY w W' gu gp mb n nv pp rv ln labs its' := by
 have hb : Below gu W W' := ⟨hg.os, hg.tape, hg.output, hg.size, fun i hi => hg.block i (by have := qC ht; omega) (by intro e; injection e with e; omega)⟩
 refine ⟨hit, hpl, h.lb.grown hg ?_, h.la.below hb hi, ⟨Nat.le_trans h.km.1 hg.size, fun q o hq h1 h2 => ?_⟩, h.bl.trans hb, hn⟩
 ·intro e
  injection e with e
  obtain ⟨D, ⟨es, ck, hb, F⟩, hd⟩ := h.lb
  subst e
  rw [ht] at hb
  cases hb
 ·have hq1 := h.km.2 q o hq h1 h2
  rw [hg.block q (qC hq1) ?_]
  ·exact hq1
  ·intro e
   injection e with e
   subst e
   rcases hty with rfl | hty
   ·rw [ht] at hq1
    injection hq1 with hq1
    exact h2 _ _ hq1.symm
   ·have := qC hq
    omega
theorem tell_ly (h : LY w W gu gp mb n nv pp rv ln labs its) (hgp : w.heap.size <= gp) (hgu : gu < w.heap.size) (hx : ∀ x, x ∈ its -> qHu x) (hn : n <= 100000) (hi : max 1 4 < gu) :
  Calls Tryz.prog 99 #[.pointer (some ⟨gu, 0, none⟩)] W fun r W' => r = .returned (.tuple #[]) /\ LY w W' gu gp mb n nv pp rv ln labs its /\ PlR W' gp n (n + 1) (qY 0 its) := by
 obtain rfl := h.n
 refine (qFe gu (gu + 1) gp _ nv _ pp rv ln its W h.ur h.pl hx hn).mono ?_
 rintro r W' ⟨rfl, hp, hg⟩
 obtain ⟨cs, k1, _⟩ := h.pl
 obtain ⟨iv, l, u1, u2, u3, u4⟩ := h.it
 have hne : ∀ {q : Nat} {c : Array Value} {t : TypeId}, W.heap[q]? = some (.cells c t (0, 0)) -> t ≠ 3 -> W'.heap[q]? = some (.cells c t (0, 0)) := fun {q c t} hq ht => by
  rw [hg.block q (qC hq) (by
   intro e
   injection e with e
   subst e
   rw [k1] at hq; injection hq with hq; injection hq with _ e2; exact ht e2.symm)]
  exact hq
 refine ⟨rfl, h.grown hg k1 (by omega) (.inr hgp) ⟨iv, l, hne u1 (by decide), ?_, u3, u4⟩ ?_ rfl hi, hp⟩
 ·refine ⟨u2.1, ?_⟩
  rcases u2.2 with h5 | ⟨q, cap, cur, h5, h6, h7, h8⟩
  ·exact .inl h5
  ·exact .inr ⟨q, cap, cur, h5, h6, hne h7 (by decide), h8⟩
 ·obtain ⟨cs', a1, a2, a3, _⟩ := hp
  exact ⟨cs', a1, a2, a3, fun i hi => by omega⟩
theorem qHG (firsts : Nat -> Nat) (h : LY w W gu gp mb n nv pp rv ln labs its) (hp : PlR W gp n (n + 1) (qY 0 its)) (hx : ∀ x, x ∈ its -> qHu x /\ qGy labs x) (hn : n <= 3000) (hi : max 1 4 < gu) (hlab : ∀ nm k, qP nm labs = some k -> k <= n) (hpos : 0 < n) :
  Calls Tryz.prog 100 #[.pointer (some ⟨gu, 0, none⟩)] W fun r W' => r = .returned (.bool (qAr ⟨labs, its, firsts⟩ (qY 0 its) 0 its).2) /\ LY w W' gu gp mb n nv pp rv ln labs (qAr ⟨labs, its, firsts⟩ (qY 0 its) 0 its).1 /\ PlR W' gp n (n + 1) (qY 0 its) := by
 obtain rfl := h.n
 obtain ⟨iv, l, u1, u2, u3, u4⟩ := h.it
 have hbd : ∀ k, 0 <= (qY 0 its).getD k 0 /\ (qY 0 its).getD k 0 <= 1000000 := fun k => by
  by_cases hk : k <= its.length
  ·have := qCK its 0 k (Int.le_refl _) (fun x hxx => (hx x hxx).1) hk
   omega
  ·have : (qY 0 its).getD k 0 = 0 := by
    rw [List.getD_eq_getElem?_getD, List.getElem?_eq_none (by rw [qF4]; omega)]
    rfl
   omega
 let x : SU := ⟨gu, gp, mb, its.length, .slice none 0 0, nv, iv, pp, ln, labs, qY 0 its, firsts⟩
 have hs : S0 x W := ⟨hp, h.lb, h.la, hi, by show its.length <= 100000; omega, hbd, hlab⟩
 refine (qGj x rv (gu + 1) its l w W (fun _ _ _ hh => h.gen hh) hs (by show gu < gu + 1; omega) u1 u2 u3 u4 rfl (fun i hii => ?_)).mono ?_
 ·have hgi := (hx i hii).2
  unfold qGy at hgi
  unfold FarOk
  cases hgen : i.gen with
  | fill => trivial
  | num nm m => trivial
  | plain op a b c => trivial
  | lead op a b c q =>
    rw [hgen] at hgi
    simp only at hgi ⊢
    intro h4
    obtain ⟨hsz, nm, add, k, rfl, hnn, hnl, ha1, ha2, hk⟩ := hgi h4
    refine ⟨hsz, ⟨hnl, ha1, ha2⟩, (qY 0 its).getD k 0 + add, ?_⟩
    show qDS ⟨labs, its, firsts⟩ (qY 0 its) (.val nm add) = _
    simp only [qDS, qEs, hnn, if_false, hk]
 ·rintro r W' ⟨rfl, ⟨l', k1, k2, k3⟩, hg⟩
  refine ⟨rfl, ?_⟩
  rcases u2.2 with ⟨h5, h0⟩ | ⟨g, cap, cur, h5, h6, h7, h8⟩
  ·omega
  ·have hov : x.iv.ownBlock = some g := by show iv.ownBlock = some g; rw [h5]; rfl
   rw [hov] at hg
   have hne : ∀ {q : Nat} {o : Obj}, W.heap[q]? = some o -> (∀ c, o ≠ .cells c 200 (0, 0)) -> W'.heap[q]? = some o := fun {q o} hq ho => by
    rw [hg.block q (qC hq) (by
     intro e
     injection e with e
     subst e
     rw [h7] at hq; injection hq with hq; exact ho _ hq.symm)]
    exact hq
   obtain ⟨cs, p1, p2, p3, p4⟩ := hp
   have p1' := hne p1 (by intro c e; injection e with _ e2; exact absurd e2 (by decide))
   refine ⟨h.grown hg h7 (by omega) (.inl rfl) ⟨iv, l', hne u1 (by intro c e; injection e with _ e2; exact absurd e2 (by decide)), ?_, k1, ?_⟩ ⟨cs, p1', p2, p3, fun i hi => by omega⟩ (qBZ _ _ _ _) hi, ⟨cs, p1', p2, p3, p4⟩⟩
   ·rw [qBZ]
    exact k2
   ·exact k3
end
theorem qH2 (u : Un) (ps : List Int) : ∀ (l : List It) (k : Nat), (qAr u ps k l).2 = false -> (qAr u ps k l).1 = l
 | [], k, _ => rfl
 | x :: l, k, h => by
   rw [qB1] at h ⊢
   simp only [Bool.or_eq_false_iff] at h
   simp only [long1, h.1, qH2 u ps l _ h.2]
   rfl
section
variable {w : World} {gu mb : Nat} {nv pp pv rv : Value} {ln : Int} {labs : List (List UInt8 × Nat)} {its : List It}
theorem LY.go {w W W' : World} {gu gp mb n : Nat} {nv pp rv : Value} {ln : Int} {labs : List (List UInt8 × Nat)} {its : List It} (h : LY w W gu gp mb n nv pp rv ln labs its) (hb : Below W.heap.size W W') : LY w W' gu gp mb n nv pp rv ln labs its := by
 obtain ⟨iv, l, u1, u2, u3, u4⟩ := h.it
 exact ⟨⟨iv, l, (hb.block _ (qC u1)).trans u1, Sc.qU u2 hb (Nat.le_refl _), u3, u4⟩, h.pl.go hb, h.lb.go hb, h.la.below hb h.la.sz, h.km.trans (qBm.of hb), h.bl.trans (hb.mono (Nat.le_of_lt (qC u1))), h.n⟩
theorem ly_begin (h : UR w (gu + 1) gu (.slice none 0 0) ln nv (.map (some mb)) pp pv rv its) (hlb : LbR w mb labs) (hla : Isa.Laid w) (hi : max 1 4 < gu) :
  LY w ((w.setCell ⟨gu, 6, none⟩ (.slice (some ⟨w.heap.size, 0, none⟩) (its.length + 1) (its.length + 1))).alloc (.cells (madeCells #[.int .i64 0] (its.length + 1)) 3)) gu w.heap.size mb its.length nv pp rv ln labs its := by
 obtain ⟨iv, l, u1, u2, u3, u4⟩ := h.its
 have hg := qC u1
 have kp : ∀ {q : Nat} {o : Obj}, w.heap[q]? = some o -> q ≠ gu -> ((w.setCell ⟨gu, 6, none⟩ (.slice (some ⟨w.heap.size, 0, none⟩) (its.length + 1) (its.length + 1))).alloc (.cells (madeCells #[.int .i64 0] (its.length + 1)) 3)).heap[q]? = some o := fun {q o} hq hne => by
  rw [old2 _ _ (by simpa using qC hq), Below.heap_setCell _ _ _ _ hne]
  exact hq
 refine ⟨⟨iv, l, ?_, ?_, u3, u4⟩, ?_, ?_, ?_, ⟨by simp, fun q o hq h1 _ => kp hq (by rintro rfl; rw [u1] at hq; injection hq with hq; exact h1 _ _ hq.symm)⟩, ?_, rfl⟩
 ·rw [old2 _ _ (by simpa using hg)]
  exact qQ u1
 ·refine ⟨u2.1, ?_⟩
  rcases u2.2 with h5 | ⟨q, cap, cur, h5, h6, h7, h8⟩
  ·exact .inl h5
  ·exact .inr ⟨q, cap, cur, h5, h6, kp h7 (by omega), h8⟩
 ·have := PlR.made (w.setCell ⟨gu, 6, none⟩ (.slice (some ⟨w.heap.size, 0, none⟩) (its.length + 1) (its.length + 1))) its.length
  simpa using this
 ·obtain ⟨D, ⟨es, ck, hb, F⟩, hd⟩ := hlb
  exact ⟨D, ⟨es, ck, kp hb (by rintro rfl; rw [u1] at hb; cases hb), F⟩, hd⟩
 ·exact hla.below (B := gu) (((Below.refl gu w).setCell (p := ⟨gu, 6, none⟩) (Nat.le_refl _) _).alloc (by simp; omega) _) hi
 ·exact ((Below.refl gu w).setCell (p := ⟨gu, 6, none⟩) (Nat.le_refl _) _).alloc (by simp; omega) _
end
theorem lay_one (w : World) (gu mb : Nat) (nv pp rv : Value) (pa : Option Addr) (pb pc : Nat) (ln : Int) (labs : List (List UInt8 × Nat)) (firsts : Nat -> Nat) (its : List It) (h : UR w (gu + 1) gu (.slice none 0 0) ln nv (.map (some mb)) pp (.slice pa pb pc) rv its) (hlb : LbR w mb labs) (hla : Isa.Laid w) (hi : max 1 4 < gu)
  (hx : ∀ x, x ∈ its -> qHu x /\ qGy labs x) (hpos : 0 < its.length) (hn : its.length <= 3000) (hlab : ∀ nm k, qP nm labs = some k -> k <= its.length)
  (hl1 : (qY 0 its).getD its.length 0 <= 8000) (hlong : (qAr ⟨labs, its, firsts⟩ (qY 0 its) 0 its).2 = false) :
  Calls Tryz.prog 75 #[.pointer (some ⟨gu, 0, none⟩)] w fun r w' => r = .returned (.int .i64 0) /\ ∃ gp, w.heap.size <= gp /\ LY w w' gu gp mb its.length nv pp rv ln labs its /\ PlR w' gp its.length (its.length + 1) (qY 0 its) := by
 have HB := Lib.hid (ly_begin h hlb hla hi)
 obtain ⟨iv, l, h1, h2, h3, h4⟩ := id h.its
 obtain ⟨ia, ic, rfl⟩ := qG h2
 have c4 : w.cell? ⟨gu, 4, none⟩ = some (.slice ia its.length ic) := qB h1 rfl
 have c6 : w.cell? ⟨gu, 6, none⟩ = some (.slice pa pb pc) := qB h1 rfl
 have f6 : w.frozen? ⟨gu, 6, none⟩ = false := qE h1
 have hg := qC h1
 have hmk : ∀ W, (Instr.makeSlice 22 (.int .i64 ((its.length : Int) + 1)) (.int .i64 ((its.length : Int) + 1))).run Tryz.prog W = .ok (.slice (some ⟨W.heap.size, 0, none⟩) (its.length + 1) (its.length + 1)) (W.alloc (.cells (madeCells #[.int .i64 0] (its.length + 1)) 3)) := fun W => makeI (its.length + 1) (by omega) W
 have HT1 := Lib.hid fun W (hW : LY w W gu w.heap.size mb its.length nv pp rv ln labs its) => tell_ly hW (Nat.le_refl _) hg (fun x hxx => (hx x hxx).1) (by omega) hi
 have HL1 := Lib.hid fun W (hW : LY w W gu w.heap.size mb its.length nv pp rv ln labs its) (hp : PlR W w.heap.size its.length (its.length + 1) (qY 0 its)) => qHG firsts hW hp hx hn hi hlab hpos
 rw [qH2 _ _ _ _ hlong, hlong] at HL1
 have HBX : Hid (∀ W its', LY w W gu w.heap.size mb its.length nv pp rv ln labs its' -> ∃ ja jc, gu < W.heap.size /\ W.cell? ⟨gu, 4, none⟩ = some (.slice ja its.length jc) /\ W.cell? ⟨gu, 6, none⟩ = some (.slice (some ⟨w.heap.size, 0, none⟩) (its.length + 1) (its.length + 1))) := fun W its' hW => by
  obtain ⟨iv, l, u1, u2, _⟩ := hW.it
  obtain ⟨ja, jc, rfl⟩ := qG u2
  refine ⟨ja, jc, qC u1, ?_, qB u1 rfl⟩
  rw [<- hW.n]
  exact qB u1 rfl
 have HPC : Hid (∀ W ps, PlR W w.heap.size its.length (its.length + 1) ps -> w.heap.size < W.heap.size /\ W.cell? ⟨w.heap.size, its.length, none⟩ = some (.int .i64 (ps.getD its.length 0))) := fun W ps hp => by
  obtain ⟨cs, q1, _, _, q4⟩ := hp
  exact ⟨qC q1, qB q1 (q4 its.length (by omega))⟩
 clear h h1 h2 h3 h4 hx hlb hla hlong
 go_enter Tryz.func75, Tryz.ntmps75
 go_wp2_with fail
 generalize (w.setCell ⟨gu, 6, none⟩ (.slice (some ⟨w.heap.size, 0, none⟩) (its.length + 1) (its.length + 1))).alloc (.cells (madeCells #[.int .i64 0] (its.length + 1)) 3) = W0 at *
 clear c4 c6 f6 hmk
 have hlt1 : ¬ (8000 : Int) < (qY 0 its).getD its.length 0 := by omega
 refine wp_loop_rounds 1 ?_
 rw [rounds_succ]
 go_wp2_with (go_at_call 99; refine (HT1.out _ HB.out).mono ?_; rintro e' w1 ⟨rfl, hy1, hp1⟩; obtain ⟨ja, jc, hz1, d4, d6⟩ := HBX.out w1 its hy1; obtain ⟨hzp1, dp⟩ := HPC.out w1 _ hp1; have HY1 := Lib.hid hy1; have HP1 := Lib.hid hp1; clear hy1 hp1)
 generalize (qY 0 its).getD its.length 0 = last1 at *
 go_quiet (fail)
 have hdr : Below w1.heap.size w1 (w1.drewN nq) := below_drewN (Below.refl _ _) _
 have HC1 := Lib.hid (HL1.out _ (HY1.out.go hdr) (HP1.out.go hdr))
 clear hdr HL1 HT1 HY1 HP1 d4 d6 dp
 go_wp2_with (go_at_call 100; refine HC1.out.mono ?_; rintro e' w2 ⟨rfl, hy2, hp2⟩; have HY2 := Lib.hid hy2; have HP2 := Lib.hid hp2; clear hy2 hp2)
 go_returns
 exact ⟨rfl, w.heap.size, Nat.le_refl _, HY2.out, HP2.out⟩
end Go.Proofs.YtfmljailbebfgaaGreatDoor
namespace Go.Proofs.YtfmljailbebfgaaGreatDoor
open Go.RowKit Go.Maps Go.MapKept
theorem qJm.al {w W : World} {gu mb gp mi : Nat} (h : qJm w W gu mb gp mi) : AlR w W gu mb gp mi 0 [] [] false :=
 ⟨h.bx, ⟨_, h.ur, World.ownsRow_nil _ _ _ _⟩, lbr_nil h.mp, by simp only [Bool.false_eq_true, if_false]; exact ⟨h.po, h.mq⟩⟩
end Go.Proofs.YtfmljailbebfgaaGreatDoor
