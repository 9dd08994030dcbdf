/- asm: the unit of a source some of whose lines are blocks of .rept, whatever its lines make. asm: whether a branch must be long. asm: branches made long that must be. asm: lengthen of any items. -/
import Derived.Test.YtjmjhbdlbmnllaaGreatDoorPut45
import Derived.Test.YtjmjhbdlbmnllaaGreatDoorPut37
import Derived.Test.YtjmjhbdlbmnllaaGreatDoorPut43
import Derived.Test.YtjmjhbdlbmnllaaGreatDoorPut35
namespace Go.Proofs.YtjmjhbdlbmnllaaGreatDoor
open Go.RowKit

end Go.Proofs.YtjmjhbdlbmnllaaGreatDoor

namespace Go.Proofs.YtjmjhbdlbmnllaaGreatDoor
open Go.RowKit

theorem ent_far (args : Array Value) (w : World) : (callFunc 178 args).run Tryz.prog w = .ok (.enter 178 args) w := by kernel_rfl

theorem far1_any (gt : Nat) (tv : Value) (p q : Int) (w : World) (hL : Isa.Laid w) (hgt : w.heap[gt]? = some (.cells #[tv] 230 (0, 0))) (hT : Tells w tv q) (h0 : 0 ≤ p) (h1 : p ≤ 1000000) (h2 : -1000000000000 ≤ q) (h3 : q ≤ 1000000000000) :
    Calls Tryz.prog 178 #[.int .i64 p, .pointer (some ⟨gt, 0, none⟩)] w fun r w' => r = .returned (.bool (!(nearU p q))) ∧ Below w.heap.size w w' := by
  obtain ⟨f, caps, rfl, hent, hto⟩ := hT
  have HTO := Lib.hid hto
  have HNE := Lib.hid fun W (hb : Below w.heap.size w W) => near_any p q W (hL.below hb hL.sz) h0 h1 h2 h3
  have ct : w.cell? ⟨gt, 0, none⟩ = some (.func (.func f) #[] caps) := blk_cell hgt rfl
  have z1 := blk_lt hgt
  clear hL hgt hto
  go_enter Tryz.func178, Tryz.ntmps178
  go_wp2_with fail
  refine (HTO.out _ (Below.refl _ _)).mono ?_
  rintro e w1 ⟨rfl, hb1⟩
  have HB1 := Lib.hid hb1
  clear hb1 HTO ct
  go_wp2_with (go_at_call 179; refine (HNE.out _ HB1.out).mono ?_; rintro e w2 ⟨rfl, hb2⟩; have HB2 := Lib.hid (HB1.out.trans (hb2.mono HB1.out.size)); clear hb2)
  go_ret
  exact ⟨rfl, HB2.out⟩

end Go.Proofs.YtjmjhbdlbmnllaaGreatDoor

namespace Go.Proofs.YtjmjhbdlbmnllaaGreatDoor
open Go.RowKit

/-- Whether an item must be made long. -/
def mustU (u : Un) (ps : List Int) (k : Nat) (x : It) : Bool := decide (x.size < 6) && farU u ps (ps.getD k 0) x.gen
def long1 (u : Un) (ps : List Int) (k : Nat) (x : It) : It := if mustU u ps k x = true then { x with size := 6 } else x
theorem longU_cons (u : Un) (ps : List Int) (k : Nat) (x : It) (r : List It) : longU u ps k (x :: r) = (long1 u ps k x :: (longU u ps (k + 1) r).1, mustU u ps k x || (longU u ps (k + 1) r).2) := by
  rw [longU]
  unfold long1 mustU
  generalize farU u ps (ps.getD k 0) x.gen = b
  by_cases h : x.size < 6
  · cases b <;> simp [h]
  · cases b <;> simp [h]
theorem longU_snoc (u : Un) (ps : List Int) (x : It) : ∀ (l : List It) (k : Nat), longU u ps k (l ++ [x]) = ((longU u ps k l).1 ++ [long1 u ps (k + l.length) x], (longU u ps k l).2 || mustU u ps (k + l.length) x)
  | [], k => by
    rw [List.nil_append, longU_cons]
    simp [longU]
  | y :: l, k => by
    rw [List.cons_append, longU_cons, longU_snoc u ps x l (k + 1), longU_cons]
    simp only [List.length_cons, List.cons_append, Bool.or_assoc]
    rw [show k + 1 + l.length = k + (l.length + 1) by omega]
theorem longU_len (u : Un) (ps : List Int) : ∀ (l : List It) (k : Nat), (longU u ps k l).1.length = l.length
  | [], k => rfl
  | x :: l, k => by rw [longU_cons, List.length_cons, List.length_cons, longU_len u ps l]
/-- The items when the first ones are looked at. -/
def itsAt (u : Un) (ps : List Int) (its : List It) (k : Nat) : List It := (longU u ps 0 (its.take k)).1 ++ its.drop k
theorem itsAt_len (u : Un) (ps : List Int) (its : List It) (k : Nat) : (itsAt u ps its k).length = its.length := by
  unfold itsAt
  rw [List.length_append, longU_len, ← List.length_append, List.take_append_drop]
theorem itsAt_at (u : Un) (ps : List Int) (its : List It) (k : Nat) (h : k < its.length) : (itsAt u ps its k)[k]'(by rw [itsAt_len]; exact h) = its[k] := by
  unfold itsAt
  rw [List.getElem_append_right (by rw [longU_len]; simp; omega)]
  simp [longU_len, Nat.min_eq_left (Nat.le_of_lt h)]
theorem itsAt_succ (u : Un) (ps : List Int) (its : List It) (k : Nat) (h : k < its.length) : itsAt u ps its (k + 1) = (itsAt u ps its k).set k (long1 u ps k its[k]) := by
  have hl : (longU u ps 0 (its.take k)).1.length = k := by rw [longU_len]; simp; omega
  unfold itsAt
  rw [List.take_succ_eq_append_getElem h, longU_snoc]
  simp only [Nat.zero_add, List.length_take, Nat.min_eq_left (Nat.le_of_lt h)]
  rw [List.set_append_right _ _ (by omega), hl, Nat.sub_self, List.append_assoc]
  congr 1
  rw [List.drop_eq_getElem_cons h]
  rfl
theorem must_succ (u : Un) (ps : List Int) (its : List It) (k : Nat) (h : k < its.length) : (longU u ps 0 (its.take (k + 1))).2 = ((longU u ps 0 (its.take k)).2 || mustU u ps k its[k]) := by
  rw [List.take_succ_eq_append_getElem h, longU_snoc]
  simp [Nat.min_eq_left (Nat.le_of_lt h)]

/-- A cell of a row of one's own is changed. -/
theorem row_put {w : World} {base n size g cap j : Nat} {e : TypeId} {xs : List Value} (h : w.ownsRow base e size (.slice (some ⟨g, 0, none⟩) n cap) n xs) (x : Value) : (w.setCell ⟨g, j, none⟩ x).ownsRow base e size (.slice (some ⟨g, 0, none⟩) n cap) n (xs.set j x) := by
  refine ⟨by rw [List.length_set]; exact h.1, .inr ?_⟩
  rcases h.2 with ⟨hv, _⟩ | ⟨g', cap', cur, hv, hg, hgg, h1, h2, h3, h4⟩
  · cases hv
  · injection hv with e1 _ e3
    injection e1 with e1
    injection e1 with e1
    subst e1 e3
    refine ⟨g, cap, cur.setIfInBounds j x, rfl, hg, blk_set hgg, h1, h2, by simpa using h3, ?_⟩
    rw [Array.toList_setIfInBounds, List.take_set, h4]

theorem itC_set : ∀ (l : List (It × Value × Value)) (k : Nat) (h : k < l.length) (s : Int), itC (l.set k ({ l[k].1 with size := s }, l[k].2)) = (itC l).set (k * 6 + 1) (.int .i64 s)
  | [], k, h, s => by simp at h
  | t :: r, 0, h, s => by simp [itC]
  | t :: r, k + 1, h, s => by
    have ih := itC_set r k (by simpa using h) s
    have e : ∀ (p : It × Value × Value) (r : List (It × Value × Value)), itC (p :: r) = [.int .i64 p.1.line, .int .i64 p.1.size, .int .i64 p.1.upTo, .int .i64 p.1.align, p.2.1, p.2.2] ++ itC r := fun p r => by simp [itC]
    simp only [List.set_cons_succ, List.getElem_cons_succ]
    rw [e, e, ih, List.set_append_right _ _ (by simp; omega)]
    congr 2
    simp
    omega
end Go.Proofs.YtjmjhbdlbmnllaaGreatDoor

namespace Go.Proofs.YtjmjhbdlbmnllaaGreatDoor
open Go.RowKit

theorem S0.grown {x : SU} {w W : World} {gi : Nat} {cur : Array Value} (h : S0 x w) (hg : w.grownBy W (some gi)) (hgi : w.heap[gi]? = some (.cells cur 140 (0, 0))) (hlt : x.gu < gi) : S0 x W := by
  refine ⟨?_, h.lb.grown hg ?_, h.laid.below (B := gi) ⟨hg.os, hg.tape, hg.output, hg.size, fun i hi => hg.block i (by have := blk_lt hgi; omega) (by intro e; injection e with e; omega)⟩ (by have := h.hi; omega), h.hi, h.nn, h.bd, h.lab⟩
  · obtain ⟨cs, k1, k2⟩ := h.pl
    refine ⟨cs, ?_, k2⟩
    rw [hg.block _ (blk_lt k1) (by intro e; injection e with e; subst e; rw [hgi] at k1; injection k1 with k1; injection k1 with _ e2; exact absurd e2 (by decide))]
    exact k1
  · intro e
    injection e with e
    obtain ⟨D, ⟨es, ck, hb, F⟩, hd⟩ := h.lb
    subst e
    rw [hgi] at hb
    cases hb

theorem Tells.go {w W : World} {tv : Value} {p : Int} (h : Tells w tv p) (hb : Below w.heap.size w W) : Tells W tv p := by
  obtain ⟨f, caps, rfl, hent, h⟩ := h
  exact ⟨f, caps, rfl, hent, fun W' hb' => h W' (hb.trans (hb'.mono hb.size))⟩

/-- What is asked of an item: where it leads is told. -/
def FarOk (x : SU) (w : World) (u : Un) (i : It) : Prop := match i.gen with
  | .lead op _ _ _ q => Isa.infoShape op = 4 → (i.size = 2 ∨ i.size = 6) ∧ GoalOk x w q ∧ ∃ p, goalU u x.ps q = .ok p
  | _ => True

set_option maxHeartbeats 4000000 in
set_option maxRecDepth 100000 in
theorem lengthen_any (x : SU) (rv : Value) (B : Nat) (its : List It) (l : List (It × Value × Value)) (w0 w : World) (hup : ∀ x' fa by', GenR w0 x.gu x' fa by' → GenR w x.gu x' fa by') (hs : S0 x w) (hlt : x.gu < B) (hu : w.heap[x.gu]? = some (.cells (x.C rv) 90 (0, 0))) (hrow : w.ownsRow B 140 6 x.iv its.length (itC l)) (hl : l.map (·.1) = its) (hg : ∀ p, p ∈ l → GenR w0 x.gu p.1 p.2.1 p.2.2) (hn : its.length = x.n) (hok : ∀ i, i ∈ its → FarOk x w ⟨x.labs, its, x.firsts⟩ i) :
    Calls Tryz.prog 61 #[.pointer (some ⟨x.gu, 0, none⟩)] w fun r w' => r = .returned (.bool (longU ⟨x.labs, its, x.firsts⟩ x.ps 0 its).2) ∧ (∃ l', l'.map (·.1) = (longU ⟨x.labs, its, x.firsts⟩ x.ps 0 its).1 ∧ w'.ownsRow B 140 6 x.iv its.length (itC l') ∧ ∀ p, p ∈ l' → GenR w0 x.gu p.1 p.2.1 p.2.2) ∧ w.grownBy w' x.iv.ownBlock := by
  obtain ⟨ia, ic, hiv⟩ := row_shape hrow
  have c4 : w.cell? ⟨x.gu, 4, none⟩ = some x.iv := blk_cell hu rfl
  have hgw := blk_lt hu
  rw [hiv] at c4
  have HS := Lib.hid hs
  have HUP := Lib.hid hup
  have HU := Lib.hid hu
  have HOK := Lib.hid hok
  have HI : Hid (∃ l', l'.map (·.1) = itsAt ⟨x.labs, its, x.firsts⟩ x.ps its 0 ∧ w.ownsRow B 140 6 x.iv its.length (itC l') ∧ ∀ p, p ∈ l' → GenR w0 x.gu p.1 p.2.1 p.2.2) := ⟨l, by simpa [itsAt, longU] using hl, hrow, hg⟩
  have HN := Lib.hid hn
  have HR0 : Hid (∀ g, x.iv.ownBlock = some g → ∃ cur, w.heap[g]? = some (.cells cur 140 (0, 0)) ∧ B ≤ g) := fun g hg => by
    rcases hrow.2 with ⟨hv, _⟩ | ⟨g', cap, cur, hv, h1, h2, _⟩
    · rw [hv] at hg; simp [Value.ownBlock] at hg
    · rw [hv] at hg; simp only [Value.ownBlock, Option.some.injEq] at hg; subst hg; exact ⟨cur, h2, h1⟩
  have hln : its.length ≤ 100000 := by have := hs.nn; omega
  clear hs hu hrow hl hg hok hn hup
  have hnn : ∀ W, (binOp .neq 98 .nilFunc .nilFunc).run Tryz.prog W = .ok (.bool false) W := fun W => by kernel_rfl
  have hnf : ∀ gt W, (binOp .neq 98 (.func (.func 178) #[] #[.pointer (some ⟨gt, 0, none⟩)]) .nilFunc).run Tryz.prog W = .ok (.bool true) W := fun gt W => by kernel_rfl
  have hent := ent_far
  go_enter Tryz.func61, Tryz.ntmps61
  go_wp2_with fail
  go_loopw [3, 11] (fun bv iv wr => ∃ k : Nat, k ≤ its.length ∧ iv = .int .i64 k ∧ bv = .bool (longU ⟨x.labs, its, x.firsts⟩ x.ps 0 (its.take k)).2 ∧ Hid (∃ l', l'.map (·.1) = itsAt ⟨x.labs, its, x.firsts⟩ x.ps its k ∧ wr.ownsRow B 140 6 x.iv its.length (itC l') ∧ ∀ p, p ∈ l' → GenR w0 x.gu p.1 p.2.1 p.2.2) ∧ Hid (w.grownBy wr x.iv.ownBlock)) (fun _ iv _ => its.length - (intOf iv).toNat)
  case atStart => exact ⟨0, Nat.zero_le _, rfl, by simp [longU], HI, World.grownBy.refl _ _⟩
  case round =>
    obtain ⟨k, hk, rfl, rfl, HL, HG⟩ := hrel
    by_cases hkl : k < its.length
    · have hk' : (k : Int) < its.length := by omega
      obtain ⟨l', hl1, hl2, hl3⟩ := HL.out
      have hll : l'.length = its.length := by have := congrArg List.length hl1; simpa [itsAt_len] using this
      have hl2' := hl2
      rw [hiv] at hl2'
      obtain ⟨g, cur, rfl, hgc, hcells⟩ := item_cells hl2' hll hkl
      obtain ⟨hgl, i0, i1, i2, i3, i4, i5⟩ := hcells wr rfl
      have hlk : l'[k].1 = its[k] := by
        have h1 := itsAt_at ⟨x.labs, its, x.firsts⟩ x.ps its k hkl
        rw [← h1]
        simp only [← hl1, List.getElem_map]
      have hGk0 := hl3 l'[k] (List.getElem_mem _)
      have hGk := HUP.out _ _ _ hGk0
      have HMS := Lib.hid (must_succ ⟨x.labs, its, x.firsts⟩ x.ps its k hkl)
      have HIS := Lib.hid (itsAt_succ ⟨x.labs, its, x.firsts⟩ x.ps its k hkl)
      generalize hb0 : (longU ⟨x.labs, its, x.firsts⟩ x.ps 0 (its.take k)).2 = b0 at *
      have HNF : Hid (farU ⟨x.labs, its, x.firsts⟩ x.ps (x.ps.getD k 0) its[k].gen = false ∧ l'[k].2.1 = .nilFunc ∨ ∃ gt tv op n m imm q p, its[k].gen = .lead op n m imm q ∧ (its[k].size = 2 ∨ its[k].size = 6) ∧ l'[k].2.1 = .func (.func 178) #[] #[.pointer (some ⟨gt, 0, none⟩)] ∧ w.heap[gt]? = some (.cells #[tv] 230 (0, 0)) ∧ GoalR w x.gu tv q ∧ GoalOk x w q ∧ goalU ⟨x.labs, its, x.firsts⟩ x.ps q = .ok p ∧ farU ⟨x.labs, its, x.firsts⟩ x.ps (x.ps.getD k 0) its[k].gen = !(nearU (x.ps.getD k 0) p)) := by
        have hfk := HOK.out its[k] (List.getElem_mem _)
        have hG2 := hGk
        rw [hlk] at hG2
        unfold GenR at hG2
        unfold FarOk at hfk
        cases hx : its[k].gen with
        | fill => rw [hx] at hG2; exact .inl ⟨rfl, hG2.1⟩
        | num nm n => rw [hx] at hG2; exact .inl ⟨rfl, hG2.1⟩
        | plain op n m imm => rw [hx] at hG2; exact .inl ⟨rfl, hG2.1⟩
        | lead op n m imm q =>
          rw [hx] at hG2 hfk
          obtain ⟨gt, gi, tv, h0, e, a, b, c⟩ := hG2
          by_cases h4 : Isa.infoShape op = 4
          · rw [if_pos h4] at h0
            obtain ⟨k0, k1, p, k2⟩ := hfk h4
            exact .inr ⟨gt, tv, op, n, m, imm, q, p, rfl, k0, h0, a, c, k1, k2, by simp only [farU, h4, if_true, k2]⟩
          · rw [if_neg h4] at h0
            exact .inl ⟨by simp only [farU, h4, if_false], h0⟩
      obtain ⟨_, fb1, fb2, fb3, hf2⟩ := hGk.shape
      rw [hlk] at i0 i1 i2 i3
      rw [hf2] at i5
      have HL1 := Lib.hid hl1
      have HL2 := Lib.hid hl2
      have HL3 := Lib.hid hl3
      have HGC := Lib.hid hgc
      rcases HNF.out with ⟨hff, hf1⟩ | ⟨gt, tv, op, nn, mm, imm, q, p, hgen, hsz, hf1, hgt, hgr, hgo, hpp, hff⟩
      · rw [hf1] at i4
        have hmf : mustU ⟨x.labs, its, x.firsts⟩ x.ps k its[k] = false := by
          unfold mustU
          rw [hff, Bool.and_false]
        have HMF := Lib.hid hmf
        have HLG : Hid (long1 ⟨x.labs, its, x.firsts⟩ x.ps k its[k] = its[k]) := by
          unfold Hid long1
          rw [hmf]
          rfl
        generalize its[k].line = li at *
        generalize its[k].size = sz at *
        generalize its[k].upTo = up at *
        generalize its[k].align = al at *
        clear hcells hf1 hf2 hgc hlk hGk hGk0 HUP hl1 hl2 hl2' hl3 HL HOK HS HU HI hmf HNF hff
        go_wp2_with fail
        go_region
        all_goals
          go_wp2
          refine ⟨⟨k + 1, by omega, by go_num, by rw [HMS.out, HMF.out, Bool.or_false], ⟨l', ?_, Sc.owns_below HL2.out (oalloc _ _).drew (Nat.le_refl _), HL3.out⟩, gtrans HG.out (gbelow _ (oalloc _ _).drew (Nat.le_refl _))⟩, by simp [intOf]; omega⟩
          rw [HIS.out, HLG.out, HL1.out]
          have := itsAt_at ⟨x.labs, its, x.firsts⟩ x.ps its k hkl
          rw [← this, List.set_getElem_self]
      · rw [hf1] at i4
        have hub : wr.heap[x.gu]? = some (.cells (x.C rv) 90 (0, 0)) := (HG.out.block _ hgw (by rw [hiv]; simp only [Value.ownBlock]; intro e; injection e with e; have := (HL2.out.lt g (by rw [hiv]; rfl)).1; omega)).trans HU.out
        have d4 : wr.cell? ⟨x.gu, 4, none⟩ = some (.slice (some ⟨g, 0, none⟩) its.length ic) := by rw [← hiv]; exact blk_cell hub rfl
        have d6 : wr.cell? ⟨x.gu, 6, none⟩ = some (.slice (some ⟨x.gp, 0, none⟩) (x.n + 1) (x.n + 1)) := blk_cell hub rfl
        have hgu := blk_lt hub
        have hkn : k < x.n + 1 := by have := HN.out; omega
        obtain ⟨cur0, hg0, hBg⟩ := HR0.out g (by rw [hiv]; rfl)
        have hgr0 : w.grownBy wr (some g) := by have := HG.out; rw [hiv] at this; exact this
        have hS0 : S0 x wr := HS.out.grown hgr0 hg0 (by omega)
        have kp : ∀ {q : Nat} {c : Array Value} {t : TypeId}, w.heap[q]? = some (.cells c t (0, 0)) → t ≠ 140 → wr.heap[q]? = some (.cells c t (0, 0)) := fun {q c t} hq ht => by
          rw [hgr0.block q (blk_lt hq) (by intro e; injection e with e; subst e; rw [hg0] at hq; injection hq with hq; injection hq with _ e2; exact ht e2.symm)]
          exact hq
        have hgo' : GoalOk x wr q := by
          cases q with
          | val nm add => exact hgo
          | slot gq i =>
            obtain ⟨o1, vv, mv, o2⟩ := hgo
            exact ⟨o1, vv, mv, kp o2 (by decide)⟩
        have hTW := goal_any x rv tv q its p wr hS0 hub (hgr.stays fun {q c t} a ht => kp a (by rintro rfl; exact absurd ht (by decide))) hgo' hpp
        have hbd := goal_bd x wr its q p hS0 hgo' hpp
        have hb1 := hS0.bd k
        have HFAR : Hid (∀ W, Below wr.heap.size wr W → Calls Tryz.prog 178 #[.int .i64 (x.ps.getD k 0), .pointer (some ⟨gt, 0, none⟩)] W fun r w' => r = .returned (.bool (!(nearU (x.ps.getD k 0) p))) ∧ Below W.heap.size W w') := fun W hb => far1_any gt tv _ p W (hS0.laid.below hb hS0.laid.sz) (by rw [hb.block _ (blk_lt (kp hgt (by decide)))]; exact kp hgt (by decide)) (hTW.go hb) hb1.1 hb1.2 (by omega) (by omega)
        have hpl : wr.cell? ⟨x.gp, k, none⟩ = some (.int .i64 (x.ps.getD k 0)) := by
          obtain ⟨cs, k1, _, _, k4⟩ := hS0.pl
          exact blk_cell k1 (k4 k hkn)
        have hgpl : x.gp < wr.heap.size := by obtain ⟨cs, k1, _⟩ := hS0.pl; exact blk_lt k1
        have hfz : wr.frozen? ⟨g, k * 6 + 1, none⟩ = false := blk_froz HGC.out
        have hne : x.gu ≠ g := by omega
        have hngp : x.gp ≠ g := by
          rintro rfl
          obtain ⟨cs, k1, _⟩ := hS0.pl
          rw [HGC.out] at k1
          injection k1 with k1
          injection k1 with _ e2
          exact absurd e2 (by decide)
        have HGEN := Lib.hid hgen
        have HMU : Hid (mustU ⟨x.labs, its, x.firsts⟩ x.ps k its[k] = (decide (its[k].size < 6) && !(nearU (x.ps.getD k 0) p))) := by
          unfold Hid mustU
          rw [hff]
        have HLK := Lib.hid hlk
        have HGK := Lib.hid hGk0
        generalize x.ps.getD k 0 = pk at *
        clear hTW hbd hS0 kp hgo' hub hcells hf1 hf2 hgc hl1 hl2 hl2' hl3 HL HOK HS HU HI HNF hff hgen hgt hgr hgo hpp hgr0 hGk hGk0 HUP
        rcases hsz with hsz | hsz
        · generalize hfar : (!(nearU pk p)) = fr at *
          have HMF : Hid (mustU ⟨x.labs, its, x.firsts⟩ x.ps k its[k] = fr) := by
            unfold Hid
            rw [HMU.out, hsz]
            rfl
          have HNO : Hid (∀ w4, Below wr.heap.size wr w4 → fr = false → (∃ l'', l''.map (·.1) = itsAt ⟨x.labs, its, x.firsts⟩ x.ps its (k + 1) ∧ w4.ownsRow B 140 6 x.iv its.length (itC l'') ∧ ∀ p, p ∈ l'' → GenR w0 x.gu p.1 p.2.1 p.2.2) ∧ w.grownBy w4 x.iv.ownBlock) := fun w4 hb hfr => by
            refine ⟨⟨l', ?_, Sc.owns_below HL2.out hb (Nat.le_refl _), HL3.out⟩, gtrans HG.out (gbelow _ hb (Nat.le_refl _))⟩
            have hm := HMF.out
            rw [hfr] at hm
            rw [HIS.out, HL1.out, long1, hm]
            have := itsAt_at ⟨x.labs, its, x.firsts⟩ x.ps its k hkl
            simp only [Bool.false_eq_true, if_false]
            rw [← this, List.set_getElem_self]
          have HYE : Hid (∀ w4, Below wr.heap.size wr w4 → fr = true → (∃ l'', l''.map (·.1) = itsAt ⟨x.labs, its, x.firsts⟩ x.ps its (k + 1) ∧ (w4.setCell ⟨g, k * 6 + 1, none⟩ (.int .i64 6)).ownsRow B 140 6 x.iv its.length (itC l'') ∧ ∀ p, p ∈ l'' → GenR w0 x.gu p.1 p.2.1 p.2.2) ∧ w.grownBy (w4.setCell ⟨g, k * 6 + 1, none⟩ (.int .i64 6)) x.iv.ownBlock) := fun w4 hb hfr => by
            have hm := HMF.out
            rw [hfr] at hm
            have hkl2 : k < l'.length := by omega
            refine ⟨⟨l'.set k ({ l'[k].1 with size := 6 }, l'[k].2), ?_, ?_, ?_⟩, gtrans (gtrans HG.out (gbelow _ hb (Nat.le_refl _))) (by rw [hiv]; exact gset _ _ _ _)⟩
            · rw [List.map_set, HL1.out, HIS.out, long1, hm]
              simp only [if_true, HLK.out]
            · rw [itC_set l' k hkl2 6, hiv]
              have hr4 := Sc.owns_below HL2.out hb (Nat.le_refl _)
              rw [hiv] at hr4
              exact row_put hr4 _
            · intro p hp
              rcases List.mem_or_eq_of_mem_set hp with hp | rfl
              · exact HL3.out p hp
              · have hge : l'[k].1.gen = .lead op nn mm imm q := by rw [HLK.out]; exact HGEN.out
                have := HGK.out
                unfold GenR at this ⊢
                rw [hge] at this
                simp only [hge]
                exact this
          clear HMU hlk hfar
          rw [hsz] at i1
          generalize its[k].line = li at *
          generalize its[k].upTo = up at *
          generalize its[k].align = al at *
          go_wp2_with fail
          have hb3 : Below wr.heap.size wr (wr.alloc (.cells #[.int .i64 li, .int .i64 2, .int .i64 up, .int .i64 al, .func (.func 178) #[] #[.pointer (some ⟨gt, 0, none⟩)], .func fb1 fb2 fb3] 140)) := oalloc _ _
          have x3 : (wr.alloc (.cells #[.int .i64 li, .int .i64 2, .int .i64 up, .int .i64 al, .func (.func 178) #[] #[.pointer (some ⟨gt, 0, none⟩)], .func fb1 fb2 fb3] 140)).heap[wr.heap.size]? = some (.cells #[.int .i64 li, .int .i64 2, .int .i64 up, .int .i64 al, .func (.func 178) #[] #[.pointer (some ⟨gt, 0, none⟩)], .func fb1 fb2 fb3] 140 (0, 0)) := new_at _ _ rfl
          generalize wr.alloc (.cells #[.int .i64 li, .int .i64 2, .int .i64 up, .int .i64 al, .func (.func 178) #[] #[.pointer (some ⟨gt, 0, none⟩)], .func fb1 fb2 fb3] 140) = W3 at *
          have y1 : W3.cell? ⟨wr.heap.size, 1, none⟩ = some (.int .i64 2) := blk_cell x3 rfl
          have y4 : W3.cell? ⟨wr.heap.size, 4, none⟩ = some (.func (.func 178) #[] #[.pointer (some ⟨gt, 0, none⟩)]) := blk_cell x3 rfl
          have hz3 := blk_lt x3
          have e6 := (hb3.cell (p := ⟨x.gu, 6, none⟩) hgu).trans d6
          have ep := (hb3.cell (p := ⟨x.gp, k, none⟩) hgpl).trans hpl
          have hgu3 : x.gu < W3.heap.size := by omega
          have hgp3 : x.gp < W3.heap.size := by omega
          have HB3 := Lib.hid hb3
          have HF3 := Lib.hid fun W (hb : Below W3.heap.size W3 W) => HFAR.out W (HB3.out.trans (hb.mono HB3.out.size))
          have D4 := Lib.hid d4
          have I1 := Lib.hid i1
          clear hb3 x3 i0 i1 i2 i3 i4 i5 d4 d6 hpl HFAR c4 hfz
          generalize wr.heap.size = gx at *
          go_region_with (refine (HF3.out _ (Below.refl _ _).drew).mono ?_; rintro e w4 ⟨rfl, hb4⟩; have hb34 : Below gx wr w4 := HB3.out.trans (((Below.refl W3.heap.size W3).drew.trans hb4).mono (by omega)); have e4 := (hb34.cell (p := ⟨x.gu, 4, none⟩) hgu).trans D4.out; have s1 := (hb34.cell (p := ⟨g, k * 6 + 1, none⟩) hgl).trans I1.out; have t4 := (hb34.block g hgl).trans HGC.out; have f1 : w4.frozen? ⟨g, k * 6 + 1, none⟩ = false := blk_froz t4; have hgw4 := blk_lt t4; have hgu4 : x.gu < w4.heap.size := (by have := hb4.size; simp at this; omega); have HB34 := Lib.hid hb34; clear hb4 hb34 t4)
          all_goals
            cases fr
            · obtain ⟨k1, k2⟩ := HNO.out w4 HB34.out rfl
              have K1 := Lib.hid k1
              have K2 := Lib.hid k2
              clear k1 k2
              go_wp2
              exact ⟨⟨k + 1, by omega, by go_num, by rw [HMS.out, HMF.out, Bool.or_false], K1, K2⟩, by simp [intOf]; omega⟩
            · obtain ⟨k1, k2⟩ := HYE.out w4 HB34.out rfl
              have K1 := Lib.hid k1
              have K2 := Lib.hid k2
              clear k1 k2
              go_wp2
              exact ⟨⟨k + 1, by omega, by go_num, by rw [HMS.out, HMF.out, Bool.or_true], K1, K2⟩, by simp [intOf]; omega⟩
        · have hmf : mustU ⟨x.labs, its, x.firsts⟩ x.ps k its[k] = false := by
            rw [HMU.out, hsz]
            rfl
          have HMF := Lib.hid hmf
          have HLG : Hid (long1 ⟨x.labs, its, x.firsts⟩ x.ps k its[k] = its[k]) := by
            unfold Hid long1
            rw [hmf]
            rfl
          clear hmf HMU HLK hlk
          rw [hsz] at i1
          generalize its[k].line = li at *
          generalize its[k].upTo = up at *
          generalize its[k].align = al at *
          go_wp2_with fail
          go_region
          all_goals
            go_wp2
            refine ⟨⟨k + 1, by omega, by go_num, by rw [HMS.out, HMF.out, Bool.or_false], ⟨l', ?_, Sc.owns_below HL2.out (oalloc _ _).drew (Nat.le_refl _), HL3.out⟩, gtrans HG.out (gbelow _ (oalloc _ _).drew (Nat.le_refl _))⟩, by simp [intOf]; omega⟩
            rw [HIS.out, HLG.out, HL1.out]
            have := itsAt_at ⟨x.labs, its, x.firsts⟩ x.ps its k hkl
            rw [← this, List.set_getElem_self]
    · obtain rfl : k = its.length := by omega
      have hk' : ¬ ((its.length : Nat) : Int) < its.length := by omega
      have HL2 := HL
      clear HL
      rw [List.take_length]
      go_wp2
      go_ret
      obtain ⟨l', q1, q2, q3⟩ := HL2.out
      refine ⟨rfl, ⟨l', ?_, by rw [← hiv]; exact q2, fun a b c h => q3 (a, b, c) h⟩, by rw [← hiv]; exact HG.out⟩
      rw [q1, itsAt, List.take_length, List.drop_length, List.append_nil]

end Go.Proofs.YtjmjhbdlbmnllaaGreatDoor
