import Derived.Test.YtfmljailbebfgaaGreatDoorPut48
set_option maxHeartbeats 4000000
set_option maxRecDepth 100000
namespace Go.Proofs.YtfmljailbebfgaaGreatDoor
open Go.RowKit
theorem S0.grown {x : SU} {w W : World} {gi : Nat} {cur : Array Value} (h : S0 x w) (hg : w.grownBy W (some gi)) (hgi : w.heap[gi]? = some (.cells cur 200 (0, 0))) (hlt : x.gu < gi) : S0 x W := by
 refine ⟨?_, h.lb.grown hg ?_, h.laid.below (B := gi) ⟨hg.os, hg.tape, hg.output, hg.size, fun i hi => hg.block i (by have := qC hgi; omega) (by intro e; injection e with e; omega)⟩ (by have := h.hi; omega), h.hi, h.nn, h.bd, h.lab⟩
 ·obtain ⟨cs, k1, k2⟩ := h.pl
  refine ⟨cs, ?_, k2⟩
  rw [hg.block _ (qC k1) (by intro e; injection e with e; subst e; rw [hgi] at k1; injection k1 with k1; injection k1 with _ e2; exact absurd e2 (by decide))]
  exact k1
 ·intro e
  injection e with e
  obtain ⟨D, ⟨es, ck, hb, F⟩, hd⟩ := h.lb
  subst e
  rw [hgi] at hb
  cases hb
theorem Tells.go {w W : World} {tv : Value} {p : Int} (h : Tells w tv p) (hb : Below w.heap.size w W) : Tells W tv p := by
 obtain ⟨f, caps, rfl, hent, h⟩ := h
 exact ⟨f, caps, rfl, hent, fun W' hb' => h W' (hb.trans (hb'.mono hb.size))⟩
def FarOk (x : SU) (w : World) (u : Un) (i : It) : Prop := match i.gen with
 | .lead op _ _ _ q => Isa.infoShape op = 4 -> (i.size = 2 \/ i.size = 6) /\ GoalOk x w q /\ ∃ p, goalU u x.ps q = .ok p
 | _ => True
theorem qD4 (x : SU) (rv : Value) (B : Nat) (its : List It) (l : List (It × Value × Value)) (w0 w : World) (hup : ∀ x' fa by', GenR w0 x.gu x' fa by' -> GenR w x.gu x' fa by') (hs : S0 x w) (hlt : x.gu < B) (hu : w.heap[x.gu]? = some (.cells (x.C rv) 143 (0, 0))) (hrow : w.ownsRow B 200 6 x.iv its.length (itC l)) (hl : l.map (·.1) = its) (hg : ∀ p, p ∈ l -> GenR w0 x.gu p.1 p.2.1 p.2.2) (hn : its.length = x.n) (hok : ∀ i, i ∈ its -> FarOk x w ⟨x.labs, its, x.firsts⟩ i) :
  Calls Tryz.prog 100 #[.pointer (some ⟨x.gu, 0, none⟩)] w fun r w' => r = .returned (.bool (longU ⟨x.labs, its, x.firsts⟩ x.ps 0 its).2) /\ (∃ l', l'.map (·.1) = (longU ⟨x.labs, its, x.firsts⟩ x.ps 0 its).1 /\ w'.ownsRow B 200 6 x.iv its.length (itC l') /\ ∀ p, p ∈ l' -> GenR w0 x.gu p.1 p.2.1 p.2.2) /\ w.grownBy w' x.iv.ownBlock := by
 obtain ⟨ia, ic, hiv⟩ := qE hrow
 have c4 : w.cell? ⟨x.gu, 4, none⟩ = some x.iv := qB hu rfl
 have hgw := qC hu
 rw [hiv] at c4
 have HS := Lib.hid hs
 have HUP := Lib.hid hup
 have HU := Lib.hid hu
 have HOK := Lib.hid hok
 have HI : Hid (∃ l', l'.map (·.1) = itsAt ⟨x.labs, its, x.firsts⟩ x.ps its 0 /\ w.ownsRow B 200 6 x.iv its.length (itC l') /\ ∀ p, p ∈ l' -> GenR w0 x.gu p.1 p.2.1 p.2.2) := ⟨l, by simpa [itsAt, longU] using hl, hrow, hg⟩
 have HN := Lib.hid hn
 have HR0 : Hid (∀ g, x.iv.ownBlock = some g -> ∃ cur, w.heap[g]? = some (.cells cur 200 (0, 0)) /\ B <= g) := fun g hg => by
  rcases hrow.2 with ⟨hv, _⟩ | ⟨g', cap, cur, hv, h1, h2, _⟩
  ·rw [hv] at hg; simp [Value.ownBlock] at hg
  ·rw [hv] at hg; simp only [Value.ownBlock, Option.some.injEq] at hg; subst hg; exact ⟨cur, h2, h1⟩
 have hln : its.length <= 100000 := by have := hs.nn; omega
 clear hs hu hrow hl hg hok hn hup
 have hnn : ∀ W, (binOp .neq 76 .nilFunc .nilFunc).run Tryz.prog W = .ok (.bool false) W := fun W => by kernel_rfl
 have hnf : ∀ gt W, (binOp .neq 76 (.func (.func 202) #[] #[.pointer (some ⟨gt, 0, none⟩)]) .nilFunc).run Tryz.prog W = .ok (.bool true) W := fun gt W => by kernel_rfl
 have hent := ent_far
 go_enter Tryz.func100, Tryz.ntmps100
 go_wp2_with fail
 go_loopw [3, 11] (fun bv iv wr => ∃ k : Nat, k <= its.length /\ iv = .int .i64 k /\ bv = .bool (longU ⟨x.labs, its, x.firsts⟩ x.ps 0 (its.take k)).2 /\ Hid (∃ l', l'.map (·.1) = itsAt ⟨x.labs, its, x.firsts⟩ x.ps its k /\ wr.ownsRow B 200 6 x.iv its.length (itC l') /\ ∀ p, p ∈ l' -> GenR w0 x.gu p.1 p.2.1 p.2.2) /\ Hid (w.grownBy wr x.iv.ownBlock)) (fun _ iv _ => its.length - (intOf iv).toNat)
 case atStart => exact ⟨0, Nat.zero_le _, rfl, by simp [longU], HI, World.grownBy.refl _ _⟩
 case round =>
  obtain ⟨k, hk, rfl, rfl, HL, HG⟩ := hrel
  by_cases hkl : k < its.length
  ·have hk' : (k : Int) < its.length := by omega
   obtain ⟨l', hl1, hl2, hl3⟩ := HL.out
   have hll : l'.length = its.length := by have := congrArg List.length hl1; simpa [qDr] using this
   have hl2' := hl2
   rw [hiv] at hl2'
   obtain ⟨g, cur, rfl, hgc, hcells⟩ := qBc hl2' hll hkl
   obtain ⟨hgl, i0, i1, i2, i3, i4, i5⟩ := hcells wr rfl
   have hlk : l'[k].1 = its[k] := by
    have h1 := qBo ⟨x.labs, its, x.firsts⟩ x.ps its k hkl
    rw [<- h1]
    simp only [<- hl1, List.getElem_map]
   have hGk0 := hl3 l'[k] (List.getElem_mem _)
   have hGk := HUP.out _ _ _ hGk0
   have HMS := Lib.hid (qI2 ⟨x.labs, its, x.firsts⟩ x.ps its k hkl)
   have HIS := Lib.hid (qGL ⟨x.labs, its, x.firsts⟩ x.ps its k hkl)
   generalize hb0 : (longU ⟨x.labs, its, x.firsts⟩ x.ps 0 (its.take k)).2 = b0 at *
   have HNF : Hid (farU ⟨x.labs, its, x.firsts⟩ x.ps (x.ps.getD k 0) its[k].gen = false /\ l'[k].2.1 = .nilFunc \/ ∃ gt tv op n m imm q p, its[k].gen = .lead op n m imm q /\ (its[k].size = 2 \/ its[k].size = 6) /\ l'[k].2.1 = .func (.func 202) #[] #[.pointer (some ⟨gt, 0, none⟩)] /\ w.heap[gt]? = some (.cells #[tv] 270 (0, 0)) /\ GoalR w x.gu tv q /\ GoalOk x w q /\ goalU ⟨x.labs, its, x.firsts⟩ x.ps q = .ok p /\ farU ⟨x.labs, its, x.firsts⟩ x.ps (x.ps.getD k 0) its[k].gen = !(nearU (x.ps.getD k 0) p)) := by
    have hfk := HOK.out its[k] (List.getElem_mem _)
    have hG2 := hGk
    rw [hlk] at hG2
    unfold GenR at hG2
    unfold FarOk at hfk
    cases hx : its[k].gen with
    | fill => rw [hx] at hG2; exact .inl ⟨rfl, hG2.1⟩
    | num nm n => rw [hx] at hG2; exact .inl ⟨rfl, hG2.1⟩
    | plain op n m imm => rw [hx] at hG2; exact .inl ⟨rfl, hG2.1⟩
    | lead op n m imm q =>
      rw [hx] at hG2 hfk
      obtain ⟨gt, gi, tv, h0, e, a, b, c⟩ := hG2
      by_cases h4 : Isa.infoShape op = 4
      ·rw [if_pos h4] at h0
       obtain ⟨k0, k1, p, k2⟩ := hfk h4
       exact .inr ⟨gt, tv, op, n, m, imm, q, p, rfl, k0, h0, a, c, k1, k2, by simp only [farU, h4, if_true, k2]⟩
      ·rw [if_neg h4] at h0
       exact .inl ⟨by simp only [farU, h4, if_false], h0⟩
   obtain ⟨_, fb1, fb2, fb3, hf2⟩ := hGk.shape
   rw [hlk] at i0 i1 i2 i3
   rw [hf2] at i5
   have HL1 := Lib.hid hl1
   have HL2 := Lib.hid hl2
   have HL3 := Lib.hid hl3
   have HGC := Lib.hid hgc
   rcases HNF.out with ⟨hff, hf1⟩ | ⟨gt, tv, op, nn, mm, imm, q, p, hgen, hsz, hf1, hgt, hgr, hgo, hpp, hff⟩
   ·rw [hf1] at i4
    have hmf : mustU ⟨x.labs, its, x.firsts⟩ x.ps k its[k] = false := by
     unfold mustU
     rw [hff, Bool.and_false]
    have HMF := Lib.hid hmf
    have HLG : Hid (long1 ⟨x.labs, its, x.firsts⟩ x.ps k its[k] = its[k]) := by
     unfold Hid long1
     rw [hmf]
     rfl
    generalize its[k].line = li at *
    generalize its[k].size = sz at *
    generalize its[k].upTo = up at *
    generalize its[k].align = al at *
    clear hcells hf1 hf2 hgc hlk hGk hGk0 HUP hl1 hl2 hl2' hl3 HL HOK HS HU HI hmf HNF hff
    go_wp2_with fail
    go_region
    all_goals
     go_wp2
     refine ⟨⟨k + 1, by omega, by go_num, by rw [HMS.out, HMF.out, Bool.or_false], ⟨l', ?_, Sc.qJ HL2.out (oalloc _ _).drew (Nat.le_refl _), HL3.out⟩, gtrans HG.out (gbelow _ (oalloc _ _).drew (Nat.le_refl _))⟩, by simp [intOf]; omega⟩
     rw [HIS.out, HLG.out, HL1.out]
     have := qBo ⟨x.labs, its, x.firsts⟩ x.ps its k hkl
     rw [<- this, List.set_getElem_self]
   ·rw [hf1] at i4
    have hub : wr.heap[x.gu]? = some (.cells (x.C rv) 143 (0, 0)) := (HG.out.block _ hgw (by rw [hiv]; simp only [Value.ownBlock]; intro e; injection e with e; have := (HL2.out.lt g (by rw [hiv]; rfl)).1; omega)).trans HU.out
    have d4 : wr.cell? ⟨x.gu, 4, none⟩ = some (.slice (some ⟨g, 0, none⟩) its.length ic) := by rw [<- hiv]; exact qB hub rfl
    have d6 : wr.cell? ⟨x.gu, 6, none⟩ = some (.slice (some ⟨x.gp, 0, none⟩) (x.n + 1) (x.n + 1)) := qB hub rfl
    have hgu := qC hub
    have hkn : k < x.n + 1 := by have := HN.out; omega
    obtain ⟨cur0, hg0, hBg⟩ := HR0.out g (by rw [hiv]; rfl)
    have hgr0 : w.grownBy wr (some g) := by have := HG.out; rw [hiv] at this; exact this
    have hS0 : S0 x wr := HS.out.grown hgr0 hg0 (by omega)
    have kp : ∀ {q : Nat} {c : Array Value} {t : TypeId}, w.heap[q]? = some (.cells c t (0, 0)) -> t ≠ 200 -> wr.heap[q]? = some (.cells c t (0, 0)) := fun {q c t} hq ht => by
     rw [hgr0.block q (qC hq) (by intro e; injection e with e; subst e; rw [hg0] at hq; injection hq with hq; injection hq with _ e2; exact ht e2.symm)]
     exact hq
    have hgo' : GoalOk x wr q := by
     cases q with
     | val nm add => exact hgo
     | slot gq i =>
       obtain ⟨o1, vv, mv, o2⟩ := hgo
       exact ⟨o1, vv, mv, kp o2 (by decide)⟩
    have hTW := qAY x rv tv q its p wr hS0 hub (hgr.stays fun {q c t} a ht => kp a (by rintro rfl; exact absurd ht (by decide))) hgo' hpp
    have hbd := qES x wr its q p hS0 hgo' hpp
    have hb1 := hS0.bd k
    have HFAR : Hid (∀ W, Below wr.heap.size wr W -> Calls Tryz.prog 202 #[.int .i64 (x.ps.getD k 0), .pointer (some ⟨gt, 0, none⟩)] W fun r w' => r = .returned (.bool (!(nearU (x.ps.getD k 0) p))) /\ Below W.heap.size W w') := fun W hb => far1_any gt tv _ p W (hS0.laid.below hb hS0.laid.sz) (by rw [hb.block _ (qC (kp hgt (by decide)))]; exact kp hgt (by decide)) (hTW.go hb) hb1.1 hb1.2 (by omega) (by omega)
    have hpl : wr.cell? ⟨x.gp, k, none⟩ = some (.int .i64 (x.ps.getD k 0)) := by
     obtain ⟨cs, k1, _, _, k4⟩ := hS0.pl
     exact qB k1 (k4 k hkn)
    have hgpl : x.gp < wr.heap.size := by obtain ⟨cs, k1, _⟩ := hS0.pl; exact qC k1
    have hfz : wr.frozen? ⟨g, k * 6 + 1, none⟩ = false := qD HGC.out
    have hne : x.gu ≠ g := by omega
    have hngp : x.gp ≠ g := by
     rintro rfl
     obtain ⟨cs, k1, _⟩ := hS0.pl
     rw [HGC.out] at k1
     injection k1 with k1
     injection k1 with _ e2
     exact absurd e2 (by decide)
    have HGEN := Lib.hid hgen
    have HMU : Hid (mustU ⟨x.labs, its, x.firsts⟩ x.ps k its[k] = (decide (its[k].size < 6) && !(nearU (x.ps.getD k 0) p))) := by
     unfold Hid mustU
     rw [hff]
    have HLK := Lib.hid hlk
    have HGK := Lib.hid hGk0
    generalize x.ps.getD k 0 = pk at *
    clear hTW hbd hS0 kp hgo' hub hcells hf1 hf2 hgc hl1 hl2 hl2' hl3 HL HOK HS HU HI HNF hff hgen hgt hgr hgo hpp hgr0 hGk hGk0 HUP
    rcases hsz with hsz | hsz
    ·generalize hfar : (!(nearU pk p)) = fr at *
     have HMF : Hid (mustU ⟨x.labs, its, x.firsts⟩ x.ps k its[k] = fr) := by
      unfold Hid
      rw [HMU.out, hsz]
      rfl
     have HNO : Hid (∀ w4, Below wr.heap.size wr w4 -> fr = false -> (∃ l'', l''.map (·.1) = itsAt ⟨x.labs, its, x.firsts⟩ x.ps its (k + 1) /\ w4.ownsRow B 200 6 x.iv its.length (itC l'') /\ ∀ p, p ∈ l'' -> GenR w0 x.gu p.1 p.2.1 p.2.2) /\ w.grownBy w4 x.iv.ownBlock) := fun w4 hb hfr => by
      refine ⟨⟨l', ?_, Sc.qJ HL2.out hb (Nat.le_refl _), HL3.out⟩, gtrans HG.out (gbelow _ hb (Nat.le_refl _))⟩
      have hm := HMF.out
      rw [hfr] at hm
      rw [HIS.out, HL1.out, long1, hm]
      have := qBo ⟨x.labs, its, x.firsts⟩ x.ps its k hkl
      simp only [Bool.false_eq_true, if_false]
      rw [<- this, List.set_getElem_self]
     have HYE : Hid (∀ w4, Below wr.heap.size wr w4 -> fr = true -> (∃ l'', l''.map (·.1) = itsAt ⟨x.labs, its, x.firsts⟩ x.ps its (k + 1) /\ (w4.setCell ⟨g, k * 6 + 1, none⟩ (.int .i64 6)).ownsRow B 200 6 x.iv its.length (itC l'') /\ ∀ p, p ∈ l'' -> GenR w0 x.gu p.1 p.2.1 p.2.2) /\ w.grownBy (w4.setCell ⟨g, k * 6 + 1, none⟩ (.int .i64 6)) x.iv.ownBlock) := fun w4 hb hfr => by
      have hm := HMF.out
      rw [hfr] at hm
      have hkl2 : k < l'.length := by omega
      refine ⟨⟨l'.set k ({ l'[k].1 with size := 6 }, l'[k].2), ?_, ?_, ?_⟩, gtrans (gtrans HG.out (gbelow _ hb (Nat.le_refl _))) (by rw [hiv]; exact gset _ _ _ _)⟩
      ·rw [List.map_set, HL1.out, HIS.out, long1, hm]
       simp only [if_true, HLK.out]
      ·rw [qG8 l' k hkl2 6, hiv]
       have hr4 := Sc.qJ HL2.out hb (Nat.le_refl _)
       rw [hiv] at hr4
       exact row_put hr4 _
      ·intro p hp
       rcases List.mem_or_eq_of_mem_set hp with hp | rfl
       ·exact HL3.out p hp
       ·have hge : l'[k].1.gen = .lead op nn mm imm q := by rw [HLK.out]; exact HGEN.out
        have := HGK.out
        unfold GenR at this ⊢
        rw [hge] at this
        simp only [hge]
        exact this
     clear HMU hlk hfar
     rw [hsz] at i1
     generalize its[k].line = li at *
     generalize its[k].upTo = up at *
     generalize its[k].align = al at *
     go_wp2_with fail
     have hb3 : Below wr.heap.size wr (wr.alloc (.cells #[.int .i64 li, .int .i64 2, .int .i64 up, .int .i64 al, .func (.func 202) #[] #[.pointer (some ⟨gt, 0, none⟩)], .func fb1 fb2 fb3] 200)) := oalloc _ _
     have x3 : (wr.alloc (.cells #[.int .i64 li, .int .i64 2, .int .i64 up, .int .i64 al, .func (.func 202) #[] #[.pointer (some ⟨gt, 0, none⟩)], .func fb1 fb2 fb3] 200)).heap[wr.heap.size]? = some (.cells #[.int .i64 li, .int .i64 2, .int .i64 up, .int .i64 al, .func (.func 202) #[] #[.pointer (some ⟨gt, 0, none⟩)], .func fb1 fb2 fb3] 200 (0, 0)) := qG _ _ rfl
     generalize wr.alloc (.cells #[.int .i64 li, .int .i64 2, .int .i64 up, .int .i64 al, .func (.func 202) #[] #[.pointer (some ⟨gt, 0, none⟩)], .func fb1 fb2 fb3] 200) = W3 at *
     have y1 : W3.cell? ⟨wr.heap.size, 1, none⟩ = some (.int .i64 2) := qB x3 rfl
     have y4 : W3.cell? ⟨wr.heap.size, 4, none⟩ = some (.func (.func 202) #[] #[.pointer (some ⟨gt, 0, none⟩)]) := qB x3 rfl
     have hz3 := qC x3
     have e6 := (hb3.cell (p := ⟨x.gu, 6, none⟩) hgu).trans d6
     have ep := (hb3.cell (p := ⟨x.gp, k, none⟩) hgpl).trans hpl
     have hgu3 : x.gu < W3.heap.size := by omega
     have hgp3 : x.gp < W3.heap.size := by omega
     have HB3 := Lib.hid hb3
     have HF3 := Lib.hid fun W (hb : Below W3.heap.size W3 W) => HFAR.out W (HB3.out.trans (hb.mono HB3.out.size))
     have D4 := Lib.hid d4
     have I1 := Lib.hid i1
     clear hb3 x3 i0 i1 i2 i3 i4 i5 d4 d6 hpl HFAR c4 hfz
     generalize wr.heap.size = gx at *
     go_region_with (refine (HF3.out _ (Below.refl _ _).drew).mono ?_; rintro e w4 ⟨rfl, hb4⟩; have hb34 : Below gx wr w4 := HB3.out.trans (((Below.refl W3.heap.size W3).drew.trans hb4).mono (by omega)); have e4 := (hb34.cell (p := ⟨x.gu, 4, none⟩) hgu).trans D4.out; have s1 := (hb34.cell (p := ⟨g, k * 6 + 1, none⟩) hgl).trans I1.out; have t4 := (hb34.block g hgl).trans HGC.out; have f1 : w4.frozen? ⟨g, k * 6 + 1, none⟩ = false := qD t4; have hgw4 := qC t4; have hgu4 : x.gu < w4.heap.size := (by have := hb4.size; simp at this; omega); have HB34 := Lib.hid hb34; clear hb4 hb34 t4)
     all_goals
      cases fr
      ·obtain ⟨k1, k2⟩ := HNO.out w4 HB34.out rfl
       have K1 := Lib.hid k1
       have K2 := Lib.hid k2
       clear k1 k2
       go_wp2
       exact ⟨⟨k + 1, by omega, by go_num, by rw [HMS.out, HMF.out, Bool.or_false], K1, K2⟩, by simp [intOf]; omega⟩
      ·obtain ⟨k1, k2⟩ := HYE.out w4 HB34.out rfl
       have K1 := Lib.hid k1
       have K2 := Lib.hid k2
       clear k1 k2
       go_wp2
       exact ⟨⟨k + 1, by omega, by go_num, by rw [HMS.out, HMF.out, Bool.or_true], K1, K2⟩, by simp [intOf]; omega⟩
    ·have hmf : mustU ⟨x.labs, its, x.firsts⟩ x.ps k its[k] = false := by
      rw [HMU.out, hsz]
      rfl
     have HMF := Lib.hid hmf
     have HLG : Hid (long1 ⟨x.labs, its, x.firsts⟩ x.ps k its[k] = its[k]) := by
      unfold Hid long1
      rw [hmf]
      rfl
     clear hmf HMU HLK hlk
     rw [hsz] at i1
     generalize its[k].line = li at *
     generalize its[k].upTo = up at *
     generalize its[k].align = al at *
     go_wp2_with fail
     go_region
     all_goals
      go_wp2
      refine ⟨⟨k + 1, by omega, by go_num, by rw [HMS.out, HMF.out, Bool.or_false], ⟨l', ?_, Sc.qJ HL2.out (oalloc _ _).drew (Nat.le_refl _), HL3.out⟩, gtrans HG.out (gbelow _ (oalloc _ _).drew (Nat.le_refl _))⟩, by simp [intOf]; omega⟩
      rw [HIS.out, HLG.out, HL1.out]
      have := qBo ⟨x.labs, its, x.firsts⟩ x.ps its k hkl
      rw [<- this, List.set_getElem_self]
  ·obtain rfl : k = its.length := by omega
   have hk' : ¬ ((its.length : Nat) : Int) < its.length := by omega
   have HL2 := HL
   clear HL
   rw [List.take_length]
   go_wp2
   go_ret
   obtain ⟨l', q1, q2, q3⟩ := HL2.out
   refine ⟨rfl, ⟨l', ?_, by rw [<- hiv]; exact q2, fun a b c h => q3 (a, b, c) h⟩, by rw [<- hiv]; exact HG.out⟩
   rw [q1, itsAt, List.take_length, List.drop_length, List.append_nil]
theorem qEi {op p q : Int} {b : List UInt8} (h : longB op p q = .ok b) : ∃ d b1 b2 b3, ledU 19 (p + 2) q = .ok d /\ encU (if op = 17 then 18 else 17) 0 0 1 = .ok b1 /\ encU 19 0 0 d = .ok b2 /\ encU 1 0 0 0 = .ok b3 /\ b = b1 ++ (b2 ++ b3) := by
 unfold longB at h
 split at h
 ·exact absurd h (by simp)
 ·next d hd =>
  split at h
  ·exact absurd h (by simp)
  ·next b1 h1 =>
   split at h
   ·exact absurd h (by simp)
   ·next b2 h2 =>
    split at h
    ·exact absurd h (by simp)
    ·next b3 h3 =>
     injection h with h
     exact ⟨d, b1, b2, b3, hd, h1, h2, h3, h.symm⟩
theorem qCP (op p q : Int) (b : List UInt8) (w : World) (hL : Isa.Laid w) (h0 : 0 <= p) (h1 : p <= 900000) (h2 : -1000000000000 <= q) (h3 : q <= 1000000000000) (hop : op = 17 \/ op = 18) (hok : longB op p q = .ok b) :
  Calls Tryz.prog 199 #[.int .i64 op, .int .i64 p, .int .i64 q] w fun r w' => (∃ ca cl cc, r = .returned (.tuple #[.slice ca cl cc, .int .i64 0]) /\ OBytes w' (.slice ca cl cc) b) /\ Below w.heap.size w w' := by
 obtain ⟨d, b1, b2, b3, hd, e1, e2, e3, rfl⟩ := qEi hok
 have HLE := Lib.hid fun W (hb : Below w.heap.size w W) => qHH 19 0 0 0 (p + 2) q d W (hL.below hb hL.sz) (by omega) (by omega) h2 h3 hd
 obtain ⟨o1, rfl⟩ := In.okB (k := ⟨if op = 17 then 18 else 17, 0, 0, 1⟩) e1
 obtain ⟨o2, rfl⟩ := In.okB (k := ⟨19, 0, 0, d⟩) e2
 obtain ⟨o3, rfl⟩ := In.okB (k := ⟨1, 0, 0, 0⟩) e3
 have HEN := Lib.hid fun g W (hb : Below w.heap.size w W) (hg : W.heap[g]? = some (.cells #[.int .i64 (if op = 17 then 18 else 17), .int .i64 0, .int .i64 0, .int .i64 1, .int .i64 19, .int .i64 0, .int .i64 0, .int .i64 d, .int .i64 1, .int .i64 0, .int .i64 0, .int .i64 0] 73 (0, 0))) => qBx [⟨if op = 17 then 18 else 17, 0, 0, 1⟩, ⟨19, 0, 0, d⟩, ⟨1, 0, 0, 0⟩] (some ⟨g, 0, none⟩) 3 W (hL.below hb hL.sz) (fun _ => ⟨g, 0, rfl, qC hg, fun i hi => by
  have hi3 : i = 0 \/ i = 1 \/ i = 2 := by simp at hi; omega
  rcases hi3 with rfl | rfl | rfl
  ·exact ⟨qB hg rfl, qB hg rfl, qB hg rfl, qB hg rfl⟩
  ·exact ⟨qB hg rfl, qB hg rfl, qB hg rfl, qB hg rfl⟩
  ·exact ⟨qB hg rfl, qB hg rfl, qB hg rfl, qB hg rfl⟩⟩) (by intro k hk; simp at hk; rcases hk with rfl | rfl | rfl <;> assumption) (by simp)
 clear hL hok hd e1 e2 e3 o1 o2 o3
 have hp2 : p + 2 <= 900002 := by omega
 rcases hop with rfl | rfl
 all_goals
  simp only [List.length_cons, List.length_nil, Nat.zero_add, Nat.reduceAdd, if_true, show ((18 : Int) = 17) = False from by simp, if_false] at HEN ⊢
  go_enter Tryz.func199, Tryz.ntmps199
  go_wp2_with fail
  refine (HLE.out _ (Below.refl _ _)).mono ?_
  rintro e w1 ⟨rfl, hb1⟩
  have HB1 := Lib.hid hb1
  clear hb1 HLE
  go_wp2_with fail
  have hz1 := HB1.out.size
  refine (HEN.out _ _ ((HB1.out.alloc hz1 _).alloc (by simp; omega) _) (qG _ _ (by simp))).mono ?_
  rintro e w2 ⟨⟨cv, rfl, hout⟩, hb2⟩
  obtain ⟨ca, cc, hcv⟩ := qE hout.1
  subst hcv
  have HOB := Lib.hid (Out.bytes hout (by simp [encsB, half]; decide))
  have HB2 : Hid (Below w.heap.size w w2) := ((HB1.out.alloc hz1 _).alloc (by simp; omega) _).trans (hb2.mono (by simp; omega))
  clear hout hb2 HEN
  go_wp2
  go_ret2
  refine ⟨⟨_, _, _, rfl, ?_⟩, HB2.out⟩
  simpa [encsB] using HOB.out
theorem qIv (gt gi : Nat) (k : In) (tv : Value) (p q : Int) (b : List UInt8) (w : World) (hL : Isa.Laid w) (hgt : w.heap[gt]? = some (.cells #[tv] 270 (0, 0))) (hgi : w.heap[gi]? = some (.cells k.C 73 (0, 0))) (hT : Tells w tv q) (h0 : 0 <= p) (h1 : p <= 900000) (h2 : -1000000000000 <= q) (h3 : q <= 1000000000000) (hop : k.op = 17 \/ k.op = 18) (hok : longB k.op p q = .ok b) :
  Calls Tryz.prog 198 #[.int .i64 p, .int .i64 6, .pointer (some ⟨gt, 0, none⟩), .pointer (some ⟨gi, 0, none⟩)] w fun r w' => (∃ ca cl cc, r = .returned (.tuple #[.slice ca cl cc, .int .i64 0]) /\ OBytes w' (.slice ca cl cc) b) /\ Below w.heap.size w w' := by
 obtain ⟨f, caps, rfl, hent, hto⟩ := hT
 have HTO := Lib.hid hto
 have HLB := Lib.hid fun W (hb : Below w.heap.size w W) => qCP k.op p q b W (hL.below hb hL.sz) h0 h1 h2 h3 hop hok
 obtain ⟨op, n, m, imm⟩ := k
 have ct : w.cell? ⟨gt, 0, none⟩ = some (.func (.func f) #[] caps) := qB hgt rfl
 have c0 : w.cell? ⟨gi, 0, none⟩ = some (.int .i64 op) := qB hgi rfl
 have z1 := qC hgt
 have z2 := qC hgi
 clear hL hgt hgi hok hto
 go_enter Tryz.func198, Tryz.ntmps198
 go_wp2_with fail
 refine (HTO.out _ (Below.refl _ _)).mono ?_
 rintro e w1 ⟨rfl, hb1⟩
 rw [<- hb1.cell (by exact z2)] at c0
 have z3 : gi < w1.heap.size := Nat.lt_of_lt_of_le z2 hb1.size
 have HB1 := Lib.hid hb1
 clear hb1 HTO ct
 go_wp2_with fail
 refine (HLB.out _ HB1.out).mono ?_
 rintro e w2 ⟨⟨ca, cl, cc, rfl, hob⟩, hb2⟩
 have HOB := Lib.hid hob
 have HB2 := Lib.hid (HB1.out.trans (hb2.mono HB1.out.size))
 clear hob hb2 HLB c0
 go_wp2
 go_ret2
 exact ⟨⟨ca, cl, cc, rfl, HOB.out⟩, HB2.out⟩
theorem qHr (x : SU) (w : World) (its : List It) (i : It) (op n m imm : Int) (q : Goal) (hx : i.gen = .lead op n m imm q) (hop : op = 17 \/ op = 18) (fa by' : Value) (p : Int) (rs rs' : List Re) (b : List UInt8) (hg : GenR w x.gu i fa by') (s2 : GoalOk x w q) (h0 : 0 <= p) (h1 : p <= 900000) (hok : bytesU ⟨x.labs, its, x.firsts⟩ x.ps p 6 rs i = .ok (b, rs')) :
  ∃ f caps, by' = .func (.func f) #[] caps /\ (∀ args w, (callFunc f args).run Tryz.prog w = .ok (.enter f args) w) /\ ∀ W rv, WS x w W rv rs -> Calls Tryz.prog f (#[.int .i64 p, .int .i64 6] ++ caps) W fun r W' => ∃ ca cl cc rv', r = .returned (.tuple #[.slice ca cl cc, .int .i64 0]) /\ OBytes W' (.slice ca cl cc) b /\ WS x w W' rv' rs' /\ Ch x.gu rv.ownBlock W W' := by
 unfold GenR at hg
 unfold bytesU at hok
 rw [hx] at hg hok
 simp only at hg hok
 obtain ⟨gt, gi, tv, _, rfl, k1, k2, k3⟩ := hg
 refine ⟨_, _, rfl, qFN, fun W rv hW => ?_⟩
 have key : ∀ {q : Nat} {c : Array Value} {t : TypeId}, w.heap[q]? = some (.cells c t (0, 0)) -> t ≠ 143 -> W.heap[q]? = some (.cells c t (0, 0)) := fun {q c t} hq ht => hW.keep hq (by
  rintro rfl
  obtain ⟨c', hu⟩ := hW.ub
  have := hq.symm.trans hu
  injection this with this
  injection this with _ e2
  exact ht e2)
 cases hq : goalU ⟨x.labs, its, x.firsts⟩ x.ps q with
 | error e => rw [hq] at hok; exact absurd hok (by simp)
 | ok pl =>
   rw [hq] at hok
   simp only [if_true] at hok
   cases he : longB op p pl with
   | error e => rw [he] at hok; exact absurd hok (by simp [Except.map])
   | ok b' =>
     rw [he] at hok
     simp only [Except.map] at hok
     injection hok with hok
     obtain ⟨rfl, rfl⟩ := Prod.mk.inj hok
     have hbd := qES x w its q pl hW.st s2 hq
     have s2' : GoalOk x W q := by
      cases q with
      | val nm add => exact s2
      | slot g i =>
        obtain ⟨o1, vv, mv, o2⟩ := s2
        exact ⟨o1, vv, mv, key o2 (by decide)⟩
     have hG : GoalR W x.gu tv q := k3.stays fun {q c t} a ht => key a (by rintro rfl; exact absurd ht (by decide))
     have hT : Tells W tv pl := qAY x rv tv q its pl W hW.s0 hW.box hG s2' hq
     refine (qIv gt gi ⟨op, n, m, imm⟩ tv p pl b' W hW.s0.laid (key k1 (by decide)) (key k2 (by decide)) hT h0 h1 (by omega) (by omega) hop he).mono ?_
     rintro r W' ⟨⟨ca, cl, cc, rfl, ho⟩, hb⟩
     exact ⟨ca, cl, cc, rv, rfl, ho, hW.go hb, Ch.of hb⟩
def GoodB (labs : List (List UInt8 × Nat)) (i : It) : Prop := match i.gen with
 | .lead op _ _ _ q => Isa.infoShape op = 4 -> (i.size = 2 \/ i.size = 6) /\ ∃ nm add k, q = .val nm add /\ nm ≠ [] /\ nm.length <= maxLen /\ -100000000000 <= add /\ add <= 100000000000 /\ labelAt nm labs = some k
 | _ => True
structure LY (w W : World) (gu gp mb n : Nat) (nv pp rv : Value) (ln : Int) (labs : List (List UInt8 × Nat)) (its : List It) : Prop where
 it : ∃ iv l, W.heap[gu]? = some (.cells (uC (.slice none 0 0) ln nv (.map (some mb)) iv pp (.slice (some ⟨gp, 0, none⟩) (n + 1) (n + 1)) rv) 143 (0, 0)) /\ W.ownsRow (gu + 1) 200 6 iv its.length (itC l) /\ l.map (·.1) = its /\ ∀ p, p ∈ l -> GenR w gu p.1 p.2.1 p.2.2
 pl : PlR W gp n 0 []
 lb : LbR W mb labs
 la : Isa.Laid W
 km : KeepM w W
 bl : Below gu w W
 n : its.length = n
section
variable {w W : World} {gu gp mb n : Nat} {nv pp rv : Value} {ln : Int} {labs : List (List UInt8 × Nat)} {its : List It}
theorem LY.gen {x : It} {fa by' : Value} (h : LY w W gu gp mb n nv pp rv ln labs its) (hg : GenR w gu x fa by') : GenR W gu x fa by' :=
 hg.stays fun {q c t} a ht => h.km.2 q _ a (by rintro c' f e; injection e with _ e2; subst e2; exact absurd ht (by decide)) (by rintro c' f e; injection e with _ e2; subst e2; exact absurd ht (by decide))
theorem LY.ur (h : LY w W gu gp mb n nv pp rv ln labs its) : UR W (gu + 1) gu (.slice none 0 0) ln nv (.map (some mb)) pp (.slice (some ⟨gp, 0, none⟩) (n + 1) (n + 1)) rv its := by
 obtain ⟨iv, l, u1, u2, u3, u4⟩ := h.it
 exact ⟨by omega, qC u1, iv, l, u1, u2, u3, fun p hp => h.gen (u4 p hp)⟩
theorem LY.grown {W' : World} {its' : List It} {g : Nat} {cur : Array Value} {t : TypeId} (h : LY w W gu gp mb n nv pp rv ln labs its) (hg : W.grownBy W' (some g)) (ht : W.heap[g]? = some (.cells cur t (0, 0))) (hlt : gu < g) (hty : t = 200 \/ w.heap.size <= g)
  (hit : ∃ iv l, W'.heap[gu]? = some (.cells (uC (.slice none 0 0) ln nv (.map (some mb)) iv pp (.slice (some ⟨gp, 0, none⟩) (n + 1) (n + 1)) rv) 143 (0, 0)) /\ W'.ownsRow (gu + 1) 200 6 iv its'.length (itC l) /\ l.map (·.1) = its' /\ ∀ p, p ∈ l -> GenR w gu p.1 p.2.1 p.2.2) (hpl : PlR W' gp n 0 []) (hn : its'.length = n) (hi : max 1 4 < gu) : LY w W' gu gp mb n nv pp rv ln labs its' := by
 have hb : Below gu W W' := ⟨hg.os, hg.tape, hg.output, hg.size, fun i hi => hg.block i (by have := qC ht; omega) (by intro e; injection e with e; omega)⟩
 refine ⟨hit, hpl, h.lb.grown hg ?_, h.la.below hb hi, ⟨Nat.le_trans h.km.1 hg.size, fun q o hq h1 h2 => ?_⟩, h.bl.trans hb, hn⟩
 ·intro e
  injection e with e
  obtain ⟨D, ⟨es, ck, hb, F⟩, hd⟩ := h.lb
  subst e
  rw [ht] at hb
  cases hb
 ·have hq1 := h.km.2 q o hq h1 h2
  rw [hg.block q (qC hq1) ?_]
  ·exact hq1
  ·intro e
   injection e with e
   subst e
   rcases hty with rfl | hty
   ·rw [ht] at hq1
    injection hq1 with hq1
    exact h2 _ _ hq1.symm
   ·have := qC hq
    omega
theorem qEZ (h : LY w W gu gp mb n nv pp rv ln labs its) (hgp : w.heap.size <= gp) (hgu : gu < w.heap.size) (hx : ∀ x, x ∈ its -> Laid1 x) (hn : n <= 100000) (hi : max 1 4 < gu) :
  Calls Tryz.prog 99 #[.pointer (some ⟨gu, 0, none⟩)] W fun r W' => r = .returned (.tuple #[]) /\ LY w W' gu gp mb n nv pp rv ln labs its /\ PlR W' gp n (n + 1) (tellU 0 its) := by
 obtain rfl := h.n
 refine (qDO gu (gu + 1) gp _ nv _ pp rv ln its W h.ur h.pl hx hn).mono ?_
 rintro r W' ⟨rfl, hp, hg⟩
 obtain ⟨cs, k1, _⟩ := h.pl
 obtain ⟨iv, l, u1, u2, u3, u4⟩ := h.it
 have hne : ∀ {q : Nat} {c : Array Value} {t : TypeId}, W.heap[q]? = some (.cells c t (0, 0)) -> t ≠ 3 -> W'.heap[q]? = some (.cells c t (0, 0)) := fun {q c t} hq ht => by
  rw [hg.block q (qC hq) (by
   intro e
   injection e with e
   subst e
   rw [k1] at hq; injection hq with hq; injection hq with _ e2; exact ht e2.symm)]
  exact hq
 refine ⟨rfl, h.grown hg k1 (by omega) (.inr hgp) ⟨iv, l, hne u1 (by decide), ?_, u3, u4⟩ ?_ rfl hi, hp⟩
 ·refine ⟨u2.1, ?_⟩
  rcases u2.2 with h5 | ⟨q, cap, cur, h5, h6, h7, h8⟩
  ·exact .inl h5
  ·exact .inr ⟨q, cap, cur, h5, h6, hne h7 (by decide), h8⟩
 ·obtain ⟨cs', a1, a2, a3, _⟩ := hp
  exact ⟨cs', a1, a2, a3, fun i hi => by omega⟩
theorem qA1 (firsts : Nat -> Nat) (h : LY w W gu gp mb n nv pp rv ln labs its) (hp : PlR W gp n (n + 1) (tellU 0 its)) (hx : ∀ x, x ∈ its -> Laid1 x /\ GoodB labs x) (hn : n <= 3000) (hi : max 1 4 < gu) (hlab : ∀ nm k, labelAt nm labs = some k -> k <= n) (hpos : 0 < n) :
  Calls Tryz.prog 100 #[.pointer (some ⟨gu, 0, none⟩)] W fun r W' => r = .returned (.bool (longU ⟨labs, its, firsts⟩ (tellU 0 its) 0 its).2) /\ LY w W' gu gp mb n nv pp rv ln labs (longU ⟨labs, its, firsts⟩ (tellU 0 its) 0 its).1 /\ PlR W' gp n (n + 1) (tellU 0 its) := by
 obtain rfl := h.n
 obtain ⟨iv, l, u1, u2, u3, u4⟩ := h.it
 have hbd : ∀ k, 0 <= (tellU 0 its).getD k 0 /\ (tellU 0 its).getD k 0 <= 1000000 := fun k => by
  by_cases hk : k <= its.length
  ·have := qAX its 0 k (Int.le_refl _) (fun x hxx => (hx x hxx).1) hk
   omega
  ·have : (tellU 0 its).getD k 0 = 0 := by
    rw [List.getD_eq_getElem?_getD, List.getElem?_eq_none (by rw [qBP]; omega)]
    rfl
   omega
 let x : SU := ⟨gu, gp, mb, its.length, .slice none 0 0, nv, iv, pp, ln, labs, tellU 0 its, firsts⟩
 have hs : S0 x W := ⟨hp, h.lb, h.la, hi, by show its.length <= 100000; omega, hbd, hlab⟩
 refine (qD4 x rv (gu + 1) its l w W (fun _ _ _ hh => h.gen hh) hs (by show gu < gu + 1; omega) u1 u2 u3 u4 rfl (fun i hii => ?_)).mono ?_
 ·have hgi := (hx i hii).2
  unfold GoodB at hgi
  unfold FarOk
  cases hgen : i.gen with
  | fill => trivial
  | num nm m => trivial
  | plain op a b c => trivial
  | lead op a b c q =>
    rw [hgen] at hgi
    simp only at hgi ⊢
    intro h4
    obtain ⟨hsz, nm, add, k, rfl, hnn, hnl, ha1, ha2, hk⟩ := hgi h4
    refine ⟨hsz, ⟨hnl, ha1, ha2⟩, (tellU 0 its).getD k 0 + add, ?_⟩
    show goalU ⟨labs, its, firsts⟩ (tellU 0 its) (.val nm add) = _
    simp only [goalU, placeU, hnn, if_false, hk]
 ·rintro r W' ⟨rfl, ⟨l', k1, k2, k3⟩, hg⟩
  refine ⟨rfl, ?_⟩
  rcases u2.2 with ⟨h5, h0⟩ | ⟨g, cap, cur, h5, h6, h7, h8⟩
  ·omega
  ·have hov : x.iv.ownBlock = some g := by show iv.ownBlock = some g; rw [h5]; rfl
   rw [hov] at hg
   have hne : ∀ {q : Nat} {o : Obj}, W.heap[q]? = some o -> (∀ c, o ≠ .cells c 200 (0, 0)) -> W'.heap[q]? = some o := fun {q o} hq ho => by
    rw [hg.block q (qC hq) (by
     intro e
     injection e with e
     subst e
     rw [h7] at hq; injection hq with hq; exact ho _ hq.symm)]
    exact hq
   obtain ⟨cs, p1, p2, p3, p4⟩ := hp
   have p1' := hne p1 (by intro c e; injection e with _ e2; exact absurd e2 (by decide))
   refine ⟨h.grown hg h7 (by omega) (.inl rfl) ⟨iv, l', hne u1 (by intro c e; injection e with _ e2; exact absurd e2 (by decide)), ?_, k1, ?_⟩ ⟨cs, p1', p2, p3, fun i hi => by omega⟩ (qs _ _ _ _) hi, ⟨cs, p1', p2, p3, p4⟩⟩
   ·rw [qs]
    exact k2
   ·exact k3
end
theorem qDG (u : Un) (ps : List Int) : ∀ (l : List It) (k : Nat), (longU u ps k l).2 = false -> (longU u ps k l).1 = l
 | [], k, _ => rfl
 | x :: l, k, h => by
   rw [qAE] at h ⊢
   simp only [Bool.or_eq_false_iff] at h
   simp only [long1, h.1, qDG u ps l _ h.2]
   rfl
section
variable {w : World} {gu mb : Nat} {nv pp pv rv : Value} {ln : Int} {labs : List (List UInt8 × Nat)} {its : List It}
theorem LY.go {w W W' : World} {gu gp mb n : Nat} {nv pp rv : Value} {ln : Int} {labs : List (List UInt8 × Nat)} {its : List It} (h : LY w W gu gp mb n nv pp rv ln labs its) (hb : Below W.heap.size W W') : LY w W' gu gp mb n nv pp rv ln labs its := by
 obtain ⟨iv, l, u1, u2, u3, u4⟩ := h.it
 exact ⟨⟨iv, l, (hb.block _ (qC u1)).trans u1, Sc.qJ u2 hb (Nat.le_refl _), u3, u4⟩, h.pl.go hb, h.lb.go hb, h.la.below hb h.la.sz, h.km.trans (KeepM.of hb), h.bl.trans (hb.mono (Nat.le_of_lt (qC u1))), h.n⟩
theorem qFS (h : UR w (gu + 1) gu (.slice none 0 0) ln nv (.map (some mb)) pp pv rv its) (hlb : LbR w mb labs) (hla : Isa.Laid w) (hi : max 1 4 < gu) :
  LY w ((w.setCell ⟨gu, 6, none⟩ (.slice (some ⟨w.heap.size, 0, none⟩) (its.length + 1) (its.length + 1))).alloc (.cells (madeCells #[.int .i64 0] (its.length + 1)) 3)) gu w.heap.size mb its.length nv pp rv ln labs its := by
 obtain ⟨iv, l, u1, u2, u3, u4⟩ := h.its
 have hg := qC u1
 have kp : ∀ {q : Nat} {o : Obj}, w.heap[q]? = some o -> q ≠ gu -> ((w.setCell ⟨gu, 6, none⟩ (.slice (some ⟨w.heap.size, 0, none⟩) (its.length + 1) (its.length + 1))).alloc (.cells (madeCells #[.int .i64 0] (its.length + 1)) 3)).heap[q]? = some o := fun {q o} hq hne => by
  rw [old2 _ _ (by simpa using qC hq), Below.heap_setCell _ _ _ _ hne]
  exact hq
 refine ⟨⟨iv, l, ?_, ?_, u3, u4⟩, ?_, ?_, ?_, ⟨by simp, fun q o hq h1 _ => kp hq (by rintro rfl; rw [u1] at hq; injection hq with hq; exact h1 _ _ hq.symm)⟩, ?_, rfl⟩
 ·rw [old2 _ _ (by simpa using hg)]
  exact qI u1
 ·refine ⟨u2.1, ?_⟩
  rcases u2.2 with h5 | ⟨q, cap, cur, h5, h6, h7, h8⟩
  ·exact .inl h5
  ·exact .inr ⟨q, cap, cur, h5, h6, kp h7 (by omega), h8⟩
 ·have := PlR.made (w.setCell ⟨gu, 6, none⟩ (.slice (some ⟨w.heap.size, 0, none⟩) (its.length + 1) (its.length + 1))) its.length
  simpa using this
 ·obtain ⟨D, ⟨es, ck, hb, F⟩, hd⟩ := hlb
  exact ⟨D, ⟨es, ck, kp hb (by rintro rfl; rw [u1] at hb; cases hb), F⟩, hd⟩
 ·exact hla.below (B := gu) (((Below.refl gu w).setCell (p := ⟨gu, 6, none⟩) (Nat.le_refl _) _).alloc (by simp; omega) _) hi
 ·exact ((Below.refl gu w).setCell (p := ⟨gu, 6, none⟩) (Nat.le_refl _) _).alloc (by simp; omega) _
end
theorem lay_two (w : World) (gu mb : Nat) (nv pp rv : Value) (pa : Option Addr) (pb pc : Nat) (ln : Int) (labs : List (List UInt8 × Nat)) (firsts : Nat -> Nat) (its its2 : List It) (h : UR w (gu + 1) gu (.slice none 0 0) ln nv (.map (some mb)) pp (.slice pa pb pc) rv its) (hlb : LbR w mb labs) (hla : Isa.Laid w) (hi : max 1 4 < gu)
  (hx : ∀ x, x ∈ its -> Laid1 x /\ GoodB labs x) (hx2 : ∀ x, x ∈ its2 -> Laid1 x /\ GoodB labs x) (hpos : 0 < its.length) (hn : its.length <= 3000) (hlab : ∀ nm k, labelAt nm labs = some k -> k <= its.length)
  (hl1 : (tellU 0 its).getD its.length 0 <= 8000) (hlong : longU ⟨labs, its, firsts⟩ (tellU 0 its) 0 its = (its2, true)) (hl2 : (tellU 0 its2).getD its.length 0 <= 8000) (hlong2 : (longU ⟨labs, its2, firsts⟩ (tellU 0 its2) 0 its2).2 = false) :
  Calls Tryz.prog 75 #[.pointer (some ⟨gu, 0, none⟩)] w fun r w' => r = .returned (.int .i64 0) /\ ∃ gp, w.heap.size <= gp /\ LY w w' gu gp mb its.length nv pp rv ln labs its2 /\ PlR w' gp its.length (its.length + 1) (tellU 0 its2) := by
 have hlen2 : its2.length = its.length := by have := qs ⟨labs, its, firsts⟩ (tellU 0 its) its 0; rw [hlong] at this; exact this
 have HB := Lib.hid (qFS h hlb hla hi)
 obtain ⟨iv, l, h1, h2, h3, h4⟩ := id h.its
 obtain ⟨ia, ic, rfl⟩ := qE h2
 have c4 : w.cell? ⟨gu, 4, none⟩ = some (.slice ia its.length ic) := qB h1 rfl
 have c6 : w.cell? ⟨gu, 6, none⟩ = some (.slice pa pb pc) := qB h1 rfl
 have f6 : w.frozen? ⟨gu, 6, none⟩ = false := qD h1
 have hg := qC h1
 have hmk : ∀ W, (Instr.makeSlice 22 (.int .i64 ((its.length : Int) + 1)) (.int .i64 ((its.length : Int) + 1))).run Tryz.prog W = .ok (.slice (some ⟨W.heap.size, 0, none⟩) (its.length + 1) (its.length + 1)) (W.alloc (.cells (madeCells #[.int .i64 0] (its.length + 1)) 3)) := fun W => makeI (its.length + 1) (by omega) W
 have HT1 := Lib.hid fun W (hW : LY w W gu w.heap.size mb its.length nv pp rv ln labs its) => qEZ hW (Nat.le_refl _) hg (fun x hxx => (hx x hxx).1) (by omega) hi
 have HL1 := Lib.hid fun W (hW : LY w W gu w.heap.size mb its.length nv pp rv ln labs its) (hp : PlR W w.heap.size its.length (its.length + 1) (tellU 0 its)) => qA1 firsts hW hp hx hn hi hlab hpos
 have HT2 := Lib.hid fun W (hW : LY w W gu w.heap.size mb its.length nv pp rv ln labs its2) => qEZ hW (Nat.le_refl _) hg (fun x hxx => (hx2 x hxx).1) (by omega) hi
 have HL2 := Lib.hid fun W (hW : LY w W gu w.heap.size mb its.length nv pp rv ln labs its2) (hp : PlR W w.heap.size its.length (its.length + 1) (tellU 0 its2)) => qA1 firsts hW hp hx2 hn hi hlab hpos
 rw [hlong] at HL1
 rw [qDG _ _ _ _ hlong2, hlong2] at HL2
 have HBX : Hid (∀ W its', LY w W gu w.heap.size mb its.length nv pp rv ln labs its' -> ∃ ja jc, gu < W.heap.size /\ W.cell? ⟨gu, 4, none⟩ = some (.slice ja its.length jc) /\ W.cell? ⟨gu, 6, none⟩ = some (.slice (some ⟨w.heap.size, 0, none⟩) (its.length + 1) (its.length + 1))) := fun W its' hW => by
  obtain ⟨iv, l, u1, u2, _⟩ := hW.it
  obtain ⟨ja, jc, rfl⟩ := qE u2
  refine ⟨ja, jc, qC u1, ?_, qB u1 rfl⟩
  rw [<- hW.n]
  exact qB u1 rfl
 have HPC : Hid (∀ W ps, PlR W w.heap.size its.length (its.length + 1) ps -> w.heap.size < W.heap.size /\ W.cell? ⟨w.heap.size, its.length, none⟩ = some (.int .i64 (ps.getD its.length 0))) := fun W ps hp => by
  obtain ⟨cs, q1, _, _, q4⟩ := hp
  exact ⟨qC q1, qB q1 (q4 its.length (by omega))⟩
 clear h h1 h2 h3 h4 hx hx2 hlb hla hlong hlong2
 go_enter Tryz.func75, Tryz.ntmps75
 go_wp2_with fail
 generalize (w.setCell ⟨gu, 6, none⟩ (.slice (some ⟨w.heap.size, 0, none⟩) (its.length + 1) (its.length + 1))).alloc (.cells (madeCells #[.int .i64 0] (its.length + 1)) 3) = W0 at *
 clear c4 c6 f6 hmk
 have hlt1 : ¬ (8000 : Int) < (tellU 0 its).getD its.length 0 := by omega
 have hlt2 : ¬ (8000 : Int) < (tellU 0 its2).getD its.length 0 := by omega
 refine wp_loop_rounds 2 ?_
 rw [rounds_succ]
 go_wp2_with (go_at_call 99; refine (HT1.out _ HB.out).mono ?_; rintro e' w1 ⟨rfl, hy1, hp1⟩; obtain ⟨ja, jc, hz1, d4, d6⟩ := HBX.out w1 its hy1; obtain ⟨hzp1, dp⟩ := HPC.out w1 _ hp1; have HY1 := Lib.hid hy1; have HP1 := Lib.hid hp1; clear hy1 hp1)
 generalize (tellU 0 its).getD its.length 0 = last1 at *
 go_quiet (fail)
 have hdr : Below w1.heap.size w1 (w1.drewN nq) := below_drewN (Below.refl _ _) _
 have HC1 := Lib.hid (HL1.out _ (HY1.out.go hdr) (HP1.out.go hdr))
 clear hdr HL1 HT1 HY1 HP1 d4 d6 dp
 go_wp2_with (go_at_call 100; refine HC1.out.mono ?_; rintro e' w2 ⟨rfl, hy2, _⟩; have HY2 := Lib.hid hy2; clear hy2)
 rw [rounds_succ]
 go_wp2_with (go_at_call 99; refine (HT2.out _ HY2.out).mono ?_; rintro e' w3 ⟨rfl, hy3, hp3⟩; obtain ⟨ka, kc, hz3, d4, d6⟩ := HBX.out w3 its2 hy3; obtain ⟨hzp3, dp⟩ := HPC.out w3 _ hp3; have HY3 := Lib.hid hy3; have HP3 := Lib.hid hp3; clear hy3 hp3)
 generalize hls : (tellU 0 its2).getD its.length 0 = last2 at *
 clear hls
 go_quiet (fail)
 have hdr : Below w3.heap.size w3 (w3.drewN nq) := below_drewN (Below.refl _ _) _
 have HC2 := Lib.hid (HL2.out _ (HY3.out.go hdr) (HP3.out.go hdr))
 clear hdr HL2 HT2 HY3 HP3 d4 d6 dp
 go_wp2_with (go_at_call 100; refine HC2.out.mono ?_; rintro e' w4 ⟨rfl, hy4, hp4⟩; have HY4 := Lib.hid hy4; have HP4 := Lib.hid hp4; clear hy4 hp4)
 go_returns
 exact ⟨rfl, w.heap.size, Nat.le_refl _, HY4.out, HP4.out⟩
theorem lay_one (w : World) (gu mb : Nat) (nv pp rv : Value) (pa : Option Addr) (pb pc : Nat) (ln : Int) (labs : List (List UInt8 × Nat)) (firsts : Nat -> Nat) (its : List It) (h : UR w (gu + 1) gu (.slice none 0 0) ln nv (.map (some mb)) pp (.slice pa pb pc) rv its) (hlb : LbR w mb labs) (hla : Isa.Laid w) (hi : max 1 4 < gu)
  (hx : ∀ x, x ∈ its -> Laid1 x /\ GoodB labs x) (hpos : 0 < its.length) (hn : its.length <= 3000) (hlab : ∀ nm k, labelAt nm labs = some k -> k <= its.length)
  (hl1 : (tellU 0 its).getD its.length 0 <= 8000) (hlong : (longU ⟨labs, its, firsts⟩ (tellU 0 its) 0 its).2 = false) :
  Calls Tryz.prog 75 #[.pointer (some ⟨gu, 0, none⟩)] w fun r w' => r = .returned (.int .i64 0) /\ ∃ gp, w.heap.size <= gp /\ LY w w' gu gp mb its.length nv pp rv ln labs its /\ PlR w' gp its.length (its.length + 1) (tellU 0 its) := by
 have HB := Lib.hid (qFS h hlb hla hi)
 obtain ⟨iv, l, h1, h2, h3, h4⟩ := id h.its
 obtain ⟨ia, ic, rfl⟩ := qE h2
 have c4 : w.cell? ⟨gu, 4, none⟩ = some (.slice ia its.length ic) := qB h1 rfl
 have c6 : w.cell? ⟨gu, 6, none⟩ = some (.slice pa pb pc) := qB h1 rfl
 have f6 : w.frozen? ⟨gu, 6, none⟩ = false := qD h1
 have hg := qC h1
 have hmk : ∀ W, (Instr.makeSlice 22 (.int .i64 ((its.length : Int) + 1)) (.int .i64 ((its.length : Int) + 1))).run Tryz.prog W = .ok (.slice (some ⟨W.heap.size, 0, none⟩) (its.length + 1) (its.length + 1)) (W.alloc (.cells (madeCells #[.int .i64 0] (its.length + 1)) 3)) := fun W => makeI (its.length + 1) (by omega) W
 have HT1 := Lib.hid fun W (hW : LY w W gu w.heap.size mb its.length nv pp rv ln labs its) => qEZ hW (Nat.le_refl _) hg (fun x hxx => (hx x hxx).1) (by omega) hi
 have HL1 := Lib.hid fun W (hW : LY w W gu w.heap.size mb its.length nv pp rv ln labs its) (hp : PlR W w.heap.size its.length (its.length + 1) (tellU 0 its)) => qA1 firsts hW hp hx hn hi hlab hpos
 rw [qDG _ _ _ _ hlong, hlong] at HL1
 have HBX : Hid (∀ W its', LY w W gu w.heap.size mb its.length nv pp rv ln labs its' -> ∃ ja jc, gu < W.heap.size /\ W.cell? ⟨gu, 4, none⟩ = some (.slice ja its.length jc) /\ W.cell? ⟨gu, 6, none⟩ = some (.slice (some ⟨w.heap.size, 0, none⟩) (its.length + 1) (its.length + 1))) := fun W its' hW => by
  obtain ⟨iv, l, u1, u2, _⟩ := hW.it
  obtain ⟨ja, jc, rfl⟩ := qE u2
  refine ⟨ja, jc, qC u1, ?_, qB u1 rfl⟩
  rw [<- hW.n]
  exact qB u1 rfl
 have HPC : Hid (∀ W ps, PlR W w.heap.size its.length (its.length + 1) ps -> w.heap.size < W.heap.size /\ W.cell? ⟨w.heap.size, its.length, none⟩ = some (.int .i64 (ps.getD its.length 0))) := fun W ps hp => by
  obtain ⟨cs, q1, _, _, q4⟩ := hp
  exact ⟨qC q1, qB q1 (q4 its.length (by omega))⟩
 clear h h1 h2 h3 h4 hx hlb hla hlong
 go_enter Tryz.func75, Tryz.ntmps75
 go_wp2_with fail
 generalize (w.setCell ⟨gu, 6, none⟩ (.slice (some ⟨w.heap.size, 0, none⟩) (its.length + 1) (its.length + 1))).alloc (.cells (madeCells #[.int .i64 0] (its.length + 1)) 3) = W0 at *
 clear c4 c6 f6 hmk
 have hlt1 : ¬ (8000 : Int) < (tellU 0 its).getD its.length 0 := by omega
 refine wp_loop_rounds 1 ?_
 rw [rounds_succ]
 go_wp2_with (go_at_call 99; refine (HT1.out _ HB.out).mono ?_; rintro e' w1 ⟨rfl, hy1, hp1⟩; obtain ⟨ja, jc, hz1, d4, d6⟩ := HBX.out w1 its hy1; obtain ⟨hzp1, dp⟩ := HPC.out w1 _ hp1; have HY1 := Lib.hid hy1; have HP1 := Lib.hid hp1; clear hy1 hp1)
 generalize (tellU 0 its).getD its.length 0 = last1 at *
 go_quiet (fail)
 have hdr : Below w1.heap.size w1 (w1.drewN nq) := below_drewN (Below.refl _ _) _
 have HC1 := Lib.hid (HL1.out _ (HY1.out.go hdr) (HP1.out.go hdr))
 clear hdr HL1 HT1 HY1 HP1 d4 d6 dp
 go_wp2_with (go_at_call 100; refine HC1.out.mono ?_; rintro e' w2 ⟨rfl, hy2, hp2⟩; have HY2 := Lib.hid hy2; have HP2 := Lib.hid hp2; clear hy2 hp2)
 go_returns
 exact ⟨rfl, w.heap.size, Nat.le_refl _, HY2.out, HP2.out⟩
def FarEnd (i : It) : Prop :=
 Laid1 i /\ (1 <= i.align /\ i.align <= 16) /\ i.upTo = 1 /\
 match i.gen with
 | .fill => False
 | .num nm add => (i.size = 1 \/ i.size = 2 \/ i.size = 4) /\ nm.length <= maxLen /\ -100000000000 <= add /\ add <= 100000000000
 | .plain _ _ _ _ => True
 | .lead op _ _ _ q => (i.size = 2 \/ i.size = 6 /\ (op = 17 \/ op = 18)) /\ ∃ nm add, q = .val nm add /\ nm.length <= maxLen /\ -100000000000 <= add /\ add <= 100000000000
theorem qIl {w0 w W' : World} {gu gp mb n : Nat} {nv pp : Value} {ln : Int} {labs : List (List UInt8 × Nat)} {firsts : Nat -> Nat} {its : List It} {code : List UInt8} {rs : List Re} (hbx : Bx w0 w) (hge : w0.heap.size + 2 <= gu) (hy : LY w W' gu gp mb n nv pp (.slice none 0 0) ln labs its) (hpl : PlR W' gp n (n + 1) (tellU 0 its)) (hnv : w.ownsRow (gu + 1) 9 1 nv labs.length (nameC labs)) (hi : max 1 4 < gu) (hn : n <= 3000) (hok : ∀ i, i ∈ its -> FarEnd i)
  (hwr : writeU ⟨labs, its, firsts⟩ (tellU 0 its) 0 [] [] its = .ok (code, rs)) (hcl : code.length <= 100000 /\ rs.length <= 100000) (lbk : ∀ nm k, labelAt nm labs = some k -> k <= n) (lbs : ∀ j (h : j < labs.length), labelAt labs[j].1 labs = some labs[j].2 /\ labs[j].1.length <= maxLen) (ll : labs.length <= 100000) :
  Calls Tryz.prog 76 #[.pointer (some ⟨gu, 0, none⟩)] W' fun r w' => ∃ ca cl cc sa sl sc qa ql qc, r = .returned (.tuple #[.agg #[.slice ca cl cc, .slice sa sl sc, .slice qa ql qc], .agg #[.int .i64 0, .int .i64 0]]) /\ ObjAt w' (.slice ca cl cc) (.slice sa sl sc) (.slice qa ql qc) ⟨code, symsU ⟨labs, its, firsts⟩ (tellU 0 its), rs⟩ /\ Bx w0 w' := by
 obtain rfl := hy.n
 obtain ⟨iv, l, u1, u2, u3, u4⟩ := hy.it
 have kp : ∀ {q : Nat} {c : Array Value} {t : TypeId}, w.heap[q]? = some (.cells c t (0, 0)) -> t ≠ 143 -> t ≠ 200 -> W'.heap[q]? = some (.cells c t (0, 0)) := fun {q c t} hq h1 h2 => hy.km.2 _ _ hq (by intro c' f e; injection e with _ e3; exact h1 e3) (by intro c' f e; injection e with _ e3; exact h2 e3)
 have hnv' : W'.ownsRow (gu + 1) 9 1 nv labs.length (nameC labs) := by
  refine ⟨hnv.1, ?_⟩
  rcases hnv.2 with h5 | ⟨g, cap, cur, h5, h6, h7, h8⟩
  ·exact .inl h5
  ·exact .inr ⟨g, cap, cur, h5, h6, kp h7 (by decide) (by decide), h8⟩
 have hbd : ∀ k, 0 <= (tellU 0 its).getD k 0 /\ (tellU 0 its).getD k 0 <= 900000 := fun k => by
  by_cases hk : k <= its.length
  ·have := qAX its 0 k (Int.le_refl _) (fun x hx => (hok x hx).1) hk
   omega
  ·have : (tellU 0 its).getD k 0 = 0 := by
    rw [List.getD_eq_getElem?_getD, List.getElem?_eq_none (by rw [qBP]; omega)]
    rfl
   omega
 let x : SU := ⟨gu, gp, mb, its.length, .slice none 0 0, nv, iv, pp, ln, labs, tellU 0 its, firsts⟩
 have hs : S0 x W' := ⟨hpl, hy.lb, hy.la, hi, by show its.length <= 100000; omega, fun k => ⟨(hbd k).1, Int.le_trans (hbd k).2 (by decide)⟩, lbk⟩
 have hll : l.length = its.length := by rw [<- u3]; simp
 refine (qH7 x (gu + 1) W' its l code rs hs u1 u2 u3 rfl (fun p hp => (hy.gen (u4 p hp)).shape.1) (fun i hi => (hok i hi).2.1) ?_ hwr hcl.1 hcl.2 hnv' lbs ll).mono ?_
 ·intro k hk rs1 rs2 b hrs hb
  have hki : k < its.length := by omega
  have hlk : l[k].1 = its[k] := by subst u3; simp
  have hokk := hok its[k] (List.getElem_mem _)
  have hstep := qB2 its 0 k hki
  have hb0 := hbd k
  obtain ⟨_, _, hup, hlast⟩ := hokk
  have hz1 : (its[k].upTo - ((tellU 0 its).getD k 0).tmod its[k].upTo).tmod its[k].upTo = 0 := by rw [hup]; exact Int.tmod_one _
  have hsz : (tellU 0 its).getD (k + 1) 0 - (tellU 0 its).getD k 0 = its[k].size := by omega
  have hG := hy.gen (u4 _ (List.getElem_mem (l := l) (n := k) hk))
  rw [hsz] at hb ⊢
  cases hg : its[k].gen with
  | fill => rw [hg] at hlast; exact hlast.elim
  | num nm add =>
    rw [hg] at hlast
    simp only at hlast
    refine qB4 x W' its l[k].1 l[k].2.1 l[k].2.2 _ _ rs1 rs2 b hG ?_ hb0.1 (by show (tellU 0 its).getD k 0 <= 1000000; omega) hrs hb
    rw [hlk]
    unfold ItOk
    rw [hg]
    simp only
    exact ⟨hlast.1, hlast.2.1, by omega, by omega⟩
  | plain op a m imm =>
    refine qB4 x W' its l[k].1 l[k].2.1 l[k].2.2 _ _ rs1 rs2 b hG ?_ hb0.1 (by show (tellU 0 its).getD k 0 <= 1000000; omega) hrs hb
    rw [hlk]
    unfold ItOk
    rw [hg]
    trivial
  | lead op a m imm q =>
    rw [hg] at hlast
    simp only at hlast
    obtain ⟨hss, nm, add, rfl, q1, q2, q3⟩ := hlast
    rcases hss with e2 | ⟨e6, hop⟩
    ·refine qB4 x W' its l[k].1 l[k].2.1 l[k].2.2 _ _ rs1 rs2 b hG ?_ hb0.1 (by show (tellU 0 its).getD k 0 <= 1000000; omega) hrs hb
     rw [hlk]
     unfold ItOk
     rw [hg]
     simp only
     exact ⟨by rw [e2]; decide, q1, q2, q3⟩
    ·rw [e6] at hb ⊢
     exact qHr x W' its l[k].1 op a m imm (.val nm add) (by rw [hlk]; exact hg) hop l[k].2.1 l[k].2.2 _ rs1 rs2 b hG ⟨q1, q2, q3⟩ hb0.1 hb0.2 hb
 ·rintro r w' ⟨ca, cl, cc, sa, sl, sc, qa, ql, qc, rfl, h1, h2, h3, h4⟩
  have hx0 := kp hbx.x0 (by decide) (by decide)
  have hx1 := kp hbx.x1 (by decide) (by decide)
  have h4' : Fr gu W'.heap.size W' w' := h4
  have hB' : Below w0.heap.size w0 W' := hbx.bel.trans (hy.bl.mono (by omega))
  refine ⟨ca, cl, cc, sa, sl, sc, qa, ql, qc, rfl, ⟨h1, h2, h3⟩, ⟨hB'.trans ((h4'.lowd (Nat.le_of_lt (qC u1))).mono (by omega)), ?_, ?_⟩⟩
  ·rw [h4'.block _ (qC hx0) (by omega)]; exact hx0
  ·rw [h4'.block _ (qC hx1) (by omega)]; exact hx1
end Go.Proofs.YtfmljailbebfgaaGreatDoor
namespace Go.Proofs.YtfmljailbebfgaaGreatDoor
open Go.RowKit Go.Maps Go.MapKept
theorem Begun.al {w W : World} {gu mb gp mi : Nat} (h : Begun w W gu mb gp mi) : AlR w W gu mb gp mi 0 [] [] false :=
 ⟨h.bx, ⟨_, h.ur, World.ownsRow_nil _ _ _ _⟩, lbr_nil h.mp, by simp only [Bool.false_eq_true, if_false]; exact ⟨h.po, h.mq⟩⟩
end Go.Proofs.YtfmljailbebfgaaGreatDoor
