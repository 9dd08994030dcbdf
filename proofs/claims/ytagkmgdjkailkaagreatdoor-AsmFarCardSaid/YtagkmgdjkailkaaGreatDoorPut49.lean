/- asm: the bytes of a branch that leads far. asm: places laid, where branches may have to be long. asm: lay, where a branch may have to be long: one round, or two. -/
import Derived.Test.YtagkmgdjkailkaaGreatDoorPut44
import Derived.Test.YtagkmgdjkailkaaGreatDoorPut48
import Derived.Test.YtagkmgdjkailkaaGreatDoorPut34
import Derived.Test.YtagkmgdjkailkaaGreatDoorPut41
namespace Go.Proofs.YtagkmgdjkailkaaGreatDoor
open Go.RowKit

theorem longB_parts {op p q : Int} {b : List UInt8} (h : longB op p q = .ok b) : ∃ d b1 b2 b3, ledU 19 (p + 2) q = .ok d ∧ encU (if op = 17 then 18 else 17) 0 0 1 = .ok b1 ∧ encU 19 0 0 d = .ok b2 ∧ encU 1 0 0 0 = .ok b3 ∧ b = b1 ++ (b2 ++ b3) := by
  unfold longB at h
  split at h
  · exact absurd h (by simp)
  · next d hd =>
    split at h
    · exact absurd h (by simp)
    · next b1 h1 =>
      split at h
      · exact absurd h (by simp)
      · next b2 h2 =>
        split at h
        · exact absurd h (by simp)
        · next b3 h3 =>
          injection h with h
          exact ⟨d, b1, b2, b3, hd, h1, h2, h3, h.symm⟩

set_option maxHeartbeats 4000000 in
theorem longBranch_any (op p q : Int) (b : List UInt8) (w : World) (hL : Isa.Laid w) (h0 : 0 ≤ p) (h1 : p ≤ 900000) (h2 : -1000000000000 ≤ q) (h3 : q ≤ 1000000000000) (hop : op = 17 ∨ op = 18) (hok : longB op p q = .ok b) :
    Calls Tryz.prog 158 #[.int .i64 op, .int .i64 p, .int .i64 q] w fun r w' => (∃ ca cl cc, r = .returned (.tuple #[.slice ca cl cc, .int .i64 0]) ∧ OBytes w' (.slice ca cl cc) b) ∧ Below w.heap.size w w' := by
  obtain ⟨d, b1, b2, b3, hd, e1, e2, e3, rfl⟩ := longB_parts hok
  have HLE := Lib.hid fun W (hb : Below w.heap.size w W) => led_any 19 0 0 0 (p + 2) q d W (hL.below hb hL.sz) (by omega) (by omega) h2 h3 hd
  obtain ⟨o1, rfl⟩ := In.okB (k := ⟨if op = 17 then 18 else 17, 0, 0, 1⟩) e1
  obtain ⟨o2, rfl⟩ := In.okB (k := ⟨19, 0, 0, d⟩) e2
  obtain ⟨o3, rfl⟩ := In.okB (k := ⟨1, 0, 0, 0⟩) e3
  have HEN := Lib.hid fun g W (hb : Below w.heap.size w W) (hg : W.heap[g]? = some (.cells #[.int .i64 (if op = 17 then 18 else 17), .int .i64 0, .int .i64 0, .int .i64 1, .int .i64 19, .int .i64 0, .int .i64 0, .int .i64 d, .int .i64 1, .int .i64 0, .int .i64 0, .int .i64 0] 37 (0, 0))) => encoded_any [⟨if op = 17 then 18 else 17, 0, 0, 1⟩, ⟨19, 0, 0, d⟩, ⟨1, 0, 0, 0⟩] (some ⟨g, 0, none⟩) 3 W (hL.below hb hL.sz) (fun _ => ⟨g, 0, rfl, blk_lt hg, fun i hi => by
    have hi3 : i = 0 ∨ i = 1 ∨ i = 2 := by simp at hi; omega
    rcases hi3 with rfl | rfl | rfl
    · exact ⟨blk_cell hg rfl, blk_cell hg rfl, blk_cell hg rfl, blk_cell hg rfl⟩
    · exact ⟨blk_cell hg rfl, blk_cell hg rfl, blk_cell hg rfl, blk_cell hg rfl⟩
    · exact ⟨blk_cell hg rfl, blk_cell hg rfl, blk_cell hg rfl, blk_cell hg rfl⟩⟩) (by intro k hk; simp at hk; rcases hk with rfl | rfl | rfl <;> assumption) (by simp)
  clear hL hok hd e1 e2 e3 o1 o2 o3
  have hp2 : p + 2 ≤ 900002 := by omega
  rcases hop with rfl | rfl
  all_goals
    simp only [List.length_cons, List.length_nil, Nat.zero_add, Nat.reduceAdd, if_true, show ((18 : Int) = 17) = False from by simp, if_false] at HEN ⊢
    go_enter Tryz.func158, Tryz.ntmps158
    go_wp2_with fail
    refine (HLE.out _ (Below.refl _ _)).mono ?_
    rintro e w1 ⟨rfl, hb1⟩
    have HB1 := Lib.hid hb1
    clear hb1 HLE
    go_wp2_with fail
    have hz1 := HB1.out.size
    refine (HEN.out _ _ ((HB1.out.alloc hz1 _).alloc (by simp; omega) _) (new_at _ _ (by simp))).mono ?_
    rintro e w2 ⟨⟨cv, rfl, hout⟩, hb2⟩
    obtain ⟨ca, cc, hcv⟩ := row_shape hout.1
    subst hcv
    have HOB := Lib.hid (Out.bytes hout (by simp [encsB, half]; decide))
    have HB2 : Hid (Below w.heap.size w w2) := ((HB1.out.alloc hz1 _).alloc (by simp; omega) _).trans (hb2.mono (by simp; omega))
    clear hout hb2 HEN
    go_wp2
    go_ret2
    refine ⟨⟨_, _, _, rfl, ?_⟩, HB2.out⟩
    simpa [encsB] using HOB.out

theorem lead1_six (gt gi : Nat) (k : In) (tv : Value) (p q : Int) (b : List UInt8) (w : World) (hL : Isa.Laid w) (hgt : w.heap[gt]? = some (.cells #[tv] 210 (0, 0))) (hgi : w.heap[gi]? = some (.cells k.C 37 (0, 0))) (hT : Tells w tv q) (h0 : 0 ≤ p) (h1 : p ≤ 900000) (h2 : -1000000000000 ≤ q) (h3 : q ≤ 1000000000000) (hop : k.op = 17 ∨ k.op = 18) (hok : longB k.op p q = .ok b) :
    Calls Tryz.prog 157 #[.int .i64 p, .int .i64 6, .pointer (some ⟨gt, 0, none⟩), .pointer (some ⟨gi, 0, none⟩)] w fun r w' => (∃ ca cl cc, r = .returned (.tuple #[.slice ca cl cc, .int .i64 0]) ∧ OBytes w' (.slice ca cl cc) b) ∧ Below w.heap.size w w' := by
  obtain ⟨f, caps, rfl, hent, hto⟩ := hT
  have HTO := Lib.hid hto
  have HLB := Lib.hid fun W (hb : Below w.heap.size w W) => longBranch_any k.op p q b W (hL.below hb hL.sz) h0 h1 h2 h3 hop hok
  obtain ⟨op, n, m, imm⟩ := k
  have ct : w.cell? ⟨gt, 0, none⟩ = some (.func (.func f) #[] caps) := blk_cell hgt rfl
  have c0 : w.cell? ⟨gi, 0, none⟩ = some (.int .i64 op) := blk_cell hgi rfl
  have z1 := blk_lt hgt
  have z2 := blk_lt hgi
  clear hL hgt hgi hok hto
  go_enter Tryz.func157, Tryz.ntmps157
  go_wp2_with fail
  refine (HTO.out _ (Below.refl _ _)).mono ?_
  rintro e w1 ⟨rfl, hb1⟩
  rw [← hb1.cell (by exact z2)] at c0
  have z3 : gi < w1.heap.size := Nat.lt_of_lt_of_le z2 hb1.size
  have HB1 := Lib.hid hb1
  clear hb1 HTO ct
  go_wp2_with fail
  refine (HLB.out _ HB1.out).mono ?_
  rintro e w2 ⟨⟨ca, cl, cc, rfl, hob⟩, hb2⟩
  have HOB := Lib.hid hob
  have HB2 := Lib.hid (HB1.out.trans (hb2.mono HB1.out.size))
  clear hob hb2 HLB c0
  go_wp2
  go_ret2
  exact ⟨⟨ca, cl, cc, rfl, HOB.out⟩, HB2.out⟩

/-- The bytes of a branch that was made long. -/
theorem bytes_six (x : SU) (w : World) (its : List It) (i : It) (op n m imm : Int) (q : Goal) (hx : i.gen = .lead op n m imm q) (hop : op = 17 ∨ op = 18) (fa by' : Value) (p : Int) (rs rs' : List Re) (b : List UInt8) (hg : GenR w x.gu i fa by') (s2 : GoalOk x w q) (h0 : 0 ≤ p) (h1 : p ≤ 900000) (hok : bytesU ⟨x.labs, its, x.firsts⟩ x.ps p 6 rs i = .ok (b, rs')) :
    ∃ f caps, by' = .func (.func f) #[] caps ∧ (∀ args w, (callFunc f args).run Tryz.prog w = .ok (.enter f args) w) ∧ ∀ W rv, WS x w W rv rs → Calls Tryz.prog f (#[.int .i64 p, .int .i64 6] ++ caps) W fun r W' => ∃ ca cl cc rv', r = .returned (.tuple #[.slice ca cl cc, .int .i64 0]) ∧ OBytes W' (.slice ca cl cc) b ∧ WS x w W' rv' rs' ∧ Ch x.gu rv.ownBlock W W' := by
  unfold GenR at hg
  unfold bytesU at hok
  rw [hx] at hg hok
  simp only at hg hok
  obtain ⟨gt, gi, tv, _, rfl, k1, k2, k3⟩ := hg
  refine ⟨_, _, rfl, ent_lead, fun W rv hW => ?_⟩
  have key : ∀ {q : Nat} {c : Array Value} {t : TypeId}, w.heap[q]? = some (.cells c t (0, 0)) → t ≠ 79 → W.heap[q]? = some (.cells c t (0, 0)) := fun {q c t} hq ht => hW.keep hq (by
    rintro rfl
    obtain ⟨c', hu⟩ := hW.ub
    have := hq.symm.trans hu
    injection this with this
    injection this with _ e2
    exact ht e2)
  cases hq : goalU ⟨x.labs, its, x.firsts⟩ x.ps q with
  | error e => rw [hq] at hok; exact absurd hok (by simp)
  | ok pl =>
    rw [hq] at hok
    simp only [if_true] at hok
    cases he : longB op p pl with
    | error e => rw [he] at hok; exact absurd hok (by simp [Except.map])
    | ok b' =>
      rw [he] at hok
      simp only [Except.map] at hok
      injection hok with hok
      obtain ⟨rfl, rfl⟩ := Prod.mk.inj hok
      have hbd := goal_bd x w its q pl hW.st s2 hq
      have s2' : GoalOk x W q := by
        cases q with
        | val nm add => exact s2
        | slot g i =>
          obtain ⟨o1, vv, mv, o2⟩ := s2
          exact ⟨o1, vv, mv, key o2 (by decide)⟩
      have hG : GoalR W x.gu tv q := k3.stays fun {q c t} a ht => key a (by rintro rfl; exact absurd ht (by decide))
      have hT : Tells W tv pl := goal_any x rv tv q its pl W hW.s0 hW.box hG s2' hq
      refine (lead1_six gt gi ⟨op, n, m, imm⟩ tv p pl b' W hW.s0.laid (key k1 (by decide)) (key k2 (by decide)) hT h0 h1 (by omega) (by omega) hop he).mono ?_
      rintro r W' ⟨⟨ca, cl, cc, rfl, ho⟩, hb⟩
      exact ⟨ca, cl, cc, rv, rfl, ho, hW.go hb, Ch.of hb⟩

end Go.Proofs.YtagkmgdjkailkaaGreatDoor

namespace Go.Proofs.YtagkmgdjkailkaaGreatDoor
open Go.RowKit

/-- A branch's goal is a label that is there. -/
def GoodB (labs : List (List UInt8 × Nat)) (i : It) : Prop := match i.gen with
  | .lead op _ _ _ q => Isa.infoShape op = 4 → (i.size = 2 ∨ i.size = 6) ∧ ∃ nm add k, q = .val nm add ∧ nm ≠ [] ∧ nm.length ≤ maxLen ∧ -100000000000 ≤ add ∧ add ≤ 100000000000 ∧ labelAt nm labs = some k
  | _ => True

/-- The unit while places are laid. -/
structure LY (w W : World) (gu gp mb n : Nat) (nv pp rv : Value) (ln : Int) (labs : List (List UInt8 × Nat)) (its : List It) : Prop where
  it : ∃ iv l, W.heap[gu]? = some (.cells (uC (.slice none 0 0) ln nv (.map (some mb)) iv pp (.slice (some ⟨gp, 0, none⟩) (n + 1) (n + 1)) rv) 79 (0, 0)) ∧ W.ownsRow (gu + 1) 131 6 iv its.length (itC l) ∧ l.map (·.1) = its ∧ ∀ p, p ∈ l → GenR w gu p.1 p.2.1 p.2.2
  pl : PlR W gp n 0 []
  lb : LbR W mb labs
  la : Isa.Laid W
  km : KeepM w W
  bl : Below gu w W
  n : its.length = n

section
variable {w W : World} {gu gp mb n : Nat} {nv pp rv : Value} {ln : Int} {labs : List (List UInt8 × Nat)} {its : List It}

theorem LY.gen {x : It} {fa by' : Value} (h : LY w W gu gp mb n nv pp rv ln labs its) (hg : GenR w gu x fa by') : GenR W gu x fa by' :=
  hg.stays fun {q c t} a ht => h.km.2 q _ a (by rintro c' f e; injection e with _ e2; subst e2; exact absurd ht (by decide)) (by rintro c' f e; injection e with _ e2; subst e2; exact absurd ht (by decide))
theorem LY.ur (h : LY w W gu gp mb n nv pp rv ln labs its) : UR W (gu + 1) gu (.slice none 0 0) ln nv (.map (some mb)) pp (.slice (some ⟨gp, 0, none⟩) (n + 1) (n + 1)) rv its := by
  obtain ⟨iv, l, u1, u2, u3, u4⟩ := h.it
  exact ⟨by omega, blk_lt u1, iv, l, u1, u2, u3, fun p hp => h.gen (u4 p hp)⟩

/-- One block changes: a row of items, or places of one's own. -/
theorem LY.grown {W' : World} {its' : List It} {g : Nat} {cur : Array Value} {t : TypeId} (h : LY w W gu gp mb n nv pp rv ln labs its) (hg : W.grownBy W' (some g)) (ht : W.heap[g]? = some (.cells cur t (0, 0))) (hlt : gu < g) (hty : t = 131 ∨ w.heap.size ≤ g)
    (hit : ∃ iv l, W'.heap[gu]? = some (.cells (uC (.slice none 0 0) ln nv (.map (some mb)) iv pp (.slice (some ⟨gp, 0, none⟩) (n + 1) (n + 1)) rv) 79 (0, 0)) ∧ W'.ownsRow (gu + 1) 131 6 iv its'.length (itC l) ∧ l.map (·.1) = its' ∧ ∀ p, p ∈ l → GenR w gu p.1 p.2.1 p.2.2) (hpl : PlR W' gp n 0 []) (hn : its'.length = n) (hi : max 7 10 < gu) : LY w W' gu gp mb n nv pp rv ln labs its' := by
  have hb : Below gu W W' := ⟨hg.os, hg.tape, hg.output, hg.size, fun i hi => hg.block i (by have := blk_lt ht; omega) (by intro e; injection e with e; omega)⟩
  refine ⟨hit, hpl, h.lb.grown hg ?_, h.la.below hb hi, ⟨Nat.le_trans h.km.1 hg.size, fun q o hq h1 h2 => ?_⟩, h.bl.trans hb, hn⟩
  · intro e
    injection e with e
    obtain ⟨D, ⟨es, ck, hb, F⟩, hd⟩ := h.lb
    subst e
    rw [ht] at hb
    cases hb
  · have hq1 := h.km.2 q o hq h1 h2
    rw [hg.block q (blk_lt hq1) ?_]
    · exact hq1
    · intro e
      injection e with e
      subst e
      rcases hty with rfl | hty
      · rw [ht] at hq1
        injection hq1 with hq1
        exact h2 _ _ hq1.symm
      · have := blk_lt hq
        omega

theorem tell_ly (h : LY w W gu gp mb n nv pp rv ln labs its) (hgp : w.heap.size ≤ gp) (hgu : gu < w.heap.size) (hx : ∀ x, x ∈ its → Laid1 x) (hn : n ≤ 100000) (hi : max 7 10 < gu) :
    Calls Tryz.prog 50 #[.pointer (some ⟨gu, 0, none⟩)] W fun r W' => r = .returned (.tuple #[]) ∧ LY w W' gu gp mb n nv pp rv ln labs its ∧ PlR W' gp n (n + 1) (tellU 0 its) := by
  obtain rfl := h.n
  refine (tell_any gu (gu + 1) gp _ nv _ pp rv ln its W h.ur h.pl hx hn).mono ?_
  rintro r W' ⟨rfl, hp, hg⟩
  obtain ⟨cs, k1, _⟩ := h.pl
  obtain ⟨iv, l, u1, u2, u3, u4⟩ := h.it
  have hne : ∀ {q : Nat} {c : Array Value} {t : TypeId}, W.heap[q]? = some (.cells c t (0, 0)) → t ≠ 3 → W'.heap[q]? = some (.cells c t (0, 0)) := fun {q c t} hq ht => by
    rw [hg.block q (blk_lt hq) (by
      intro e
      injection e with e
      subst e
      rw [k1] at hq; injection hq with hq; injection hq with _ e2; exact ht e2.symm)]
    exact hq
  refine ⟨rfl, h.grown hg k1 (by omega) (.inr hgp) ⟨iv, l, hne u1 (by decide), ?_, u3, u4⟩ ?_ rfl hi, hp⟩
  · refine ⟨u2.1, ?_⟩
    rcases u2.2 with h5 | ⟨q, cap, cur, h5, h6, h7, h8⟩
    · exact .inl h5
    · exact .inr ⟨q, cap, cur, h5, h6, hne h7 (by decide), h8⟩
  · obtain ⟨cs', a1, a2, a3, _⟩ := hp
    exact ⟨cs', a1, a2, a3, fun i hi => by omega⟩

theorem lengthen_ly (firsts : Nat → Nat) (h : LY w W gu gp mb n nv pp rv ln labs its) (hp : PlR W gp n (n + 1) (tellU 0 its)) (hx : ∀ x, x ∈ its → Laid1 x ∧ GoodB labs x) (hn : n ≤ 3000) (hi : max 7 10 < gu) (hlab : ∀ nm k, labelAt nm labs = some k → k ≤ n) (hpos : 0 < n) :
    Calls Tryz.prog 51 #[.pointer (some ⟨gu, 0, none⟩)] W fun r W' => r = .returned (.bool (longU ⟨labs, its, firsts⟩ (tellU 0 its) 0 its).2) ∧ LY w W' gu gp mb n nv pp rv ln labs (longU ⟨labs, its, firsts⟩ (tellU 0 its) 0 its).1 ∧ PlR W' gp n (n + 1) (tellU 0 its) := by
  obtain rfl := h.n
  obtain ⟨iv, l, u1, u2, u3, u4⟩ := h.it
  have hbd : ∀ k, 0 ≤ (tellU 0 its).getD k 0 ∧ (tellU 0 its).getD k 0 ≤ 1000000 := fun k => by
    by_cases hk : k ≤ its.length
    · have := tell_bounds its 0 k (Int.le_refl _) (fun x hxx => (hx x hxx).1) hk
      omega
    · have : (tellU 0 its).getD k 0 = 0 := by
        rw [List.getD_eq_getElem?_getD, List.getElem?_eq_none (by rw [tell_len]; omega)]
        rfl
      omega
  let x : SU := ⟨gu, gp, mb, its.length, .slice none 0 0, nv, iv, pp, ln, labs, tellU 0 its, firsts⟩
  have hs : S0 x W := ⟨hp, h.lb, h.la, hi, by show its.length ≤ 100000; omega, hbd, hlab⟩
  refine (lengthen_any x rv (gu + 1) its l w W (fun _ _ _ hh => h.gen hh) hs (by show gu < gu + 1; omega) u1 u2 u3 u4 rfl (fun i hii => ?_)).mono ?_
  · have hgi := (hx i hii).2
    unfold GoodB at hgi
    unfold FarOk
    cases hgen : i.gen with
    | fill => trivial
    | num nm m => trivial
    | plain op a b c => trivial
    | lead op a b c q =>
      rw [hgen] at hgi
      simp only at hgi ⊢
      intro h4
      obtain ⟨hsz, nm, add, k, rfl, hnn, hnl, ha1, ha2, hk⟩ := hgi h4
      refine ⟨hsz, ⟨hnl, ha1, ha2⟩, (tellU 0 its).getD k 0 + add, ?_⟩
      show goalU ⟨labs, its, firsts⟩ (tellU 0 its) (.val nm add) = _
      simp only [goalU, placeU, hnn, if_false, hk]
  · rintro r W' ⟨rfl, ⟨l', k1, k2, k3⟩, hg⟩
    refine ⟨rfl, ?_⟩
    rcases u2.2 with ⟨h5, h0⟩ | ⟨g, cap, cur, h5, h6, h7, h8⟩
    · omega
    · have hov : x.iv.ownBlock = some g := by show iv.ownBlock = some g; rw [h5]; rfl
      rw [hov] at hg
      have hne : ∀ {q : Nat} {o : Obj}, W.heap[q]? = some o → (∀ c, o ≠ .cells c 131 (0, 0)) → W'.heap[q]? = some o := fun {q o} hq ho => by
        rw [hg.block q (blk_lt hq) (by
          intro e
          injection e with e
          subst e
          rw [h7] at hq; injection hq with hq; exact ho _ hq.symm)]
        exact hq
      obtain ⟨cs, p1, p2, p3, p4⟩ := hp
      have p1' := hne p1 (by intro c e; injection e with _ e2; exact absurd e2 (by decide))
      refine ⟨h.grown hg h7 (by omega) (.inl rfl) ⟨iv, l', hne u1 (by intro c e; injection e with _ e2; exact absurd e2 (by decide)), ?_, k1, ?_⟩ ⟨cs, p1', p2, p3, fun i hi => by omega⟩ (longU_len _ _ _ _) hi, ⟨cs, p1', p2, p3, p4⟩⟩
      · rw [longU_len]
        exact k2
      · exact k3
end

end Go.Proofs.YtagkmgdjkailkaaGreatDoor

namespace Go.Proofs.YtagkmgdjkailkaaGreatDoor
open Go.RowKit

theorem longU_no (u : Un) (ps : List Int) : ∀ (l : List It) (k : Nat), (longU u ps k l).2 = false → (longU u ps k l).1 = l
  | [], k, _ => rfl
  | x :: l, k, h => by
    rw [longU_cons] at h ⊢
    simp only [Bool.or_eq_false_iff] at h
    simp only [long1, h.1, longU_no u ps l _ h.2]
    rfl

section
variable {w : World} {gu mb : Nat} {nv pp pv rv : Value} {ln : Int} {labs : List (List UInt8 × Nat)} {its : List It}

theorem LY.go {w W W' : World} {gu gp mb n : Nat} {nv pp rv : Value} {ln : Int} {labs : List (List UInt8 × Nat)} {its : List It} (h : LY w W gu gp mb n nv pp rv ln labs its) (hb : Below W.heap.size W W') : LY w W' gu gp mb n nv pp rv ln labs its := by
  obtain ⟨iv, l, u1, u2, u3, u4⟩ := h.it
  exact ⟨⟨iv, l, (hb.block _ (blk_lt u1)).trans u1, Sc.owns_below u2 hb (Nat.le_refl _), u3, u4⟩, h.pl.go hb, h.lb.go hb, h.la.below hb h.la.sz, h.km.trans (KeepM.of hb), h.bl.trans (hb.mono (Nat.le_of_lt (blk_lt u1))), h.n⟩

theorem ly_begin (h : UR w (gu + 1) gu (.slice none 0 0) ln nv (.map (some mb)) pp pv rv its) (hlb : LbR w mb labs) (hla : Isa.Laid w) (hi : max 7 10 < gu) :
    LY w ((w.setCell ⟨gu, 6, none⟩ (.slice (some ⟨w.heap.size, 0, none⟩) (its.length + 1) (its.length + 1))).alloc (.cells (madeCells #[.int .i64 0] (its.length + 1)) 3)) gu w.heap.size mb its.length nv pp rv ln labs its := by
  obtain ⟨iv, l, u1, u2, u3, u4⟩ := h.its
  have hg := blk_lt u1
  have kp : ∀ {q : Nat} {o : Obj}, w.heap[q]? = some o → q ≠ gu → ((w.setCell ⟨gu, 6, none⟩ (.slice (some ⟨w.heap.size, 0, none⟩) (its.length + 1) (its.length + 1))).alloc (.cells (madeCells #[.int .i64 0] (its.length + 1)) 3)).heap[q]? = some o := fun {q o} hq hne => by
    rw [old2 _ _ (by simpa using blk_lt hq), Below.heap_setCell _ _ _ _ hne]
    exact hq
  refine ⟨⟨iv, l, ?_, ?_, u3, u4⟩, ?_, ?_, ?_, ⟨by simp, fun q o hq h1 _ => kp hq (by rintro rfl; rw [u1] at hq; injection hq with hq; exact h1 _ _ hq.symm)⟩, ?_, rfl⟩
  · rw [old2 _ _ (by simpa using hg)]
    exact blk_set u1
  · refine ⟨u2.1, ?_⟩
    rcases u2.2 with h5 | ⟨q, cap, cur, h5, h6, h7, h8⟩
    · exact .inl h5
    · exact .inr ⟨q, cap, cur, h5, h6, kp h7 (by omega), h8⟩
  · have := PlR.made (w.setCell ⟨gu, 6, none⟩ (.slice (some ⟨w.heap.size, 0, none⟩) (its.length + 1) (its.length + 1))) its.length
    simpa using this
  · obtain ⟨D, ⟨es, ck, hb, F⟩, hd⟩ := hlb
    exact ⟨D, ⟨es, ck, kp hb (by rintro rfl; rw [u1] at hb; cases hb), F⟩, hd⟩
  · exact hla.below (B := gu) (((Below.refl gu w).setCell (p := ⟨gu, 6, none⟩) (Nat.le_refl _) _).alloc (by simp; omega) _) hi
  · exact ((Below.refl gu w).setCell (p := ⟨gu, 6, none⟩) (Nat.le_refl _) _).alloc (by simp; omega) _
end

set_option maxHeartbeats 4000000 in
theorem lay_two (w : World) (gu mb : Nat) (nv pp rv : Value) (pa : Option Addr) (pb pc : Nat) (ln : Int) (labs : List (List UInt8 × Nat)) (firsts : Nat → Nat) (its its2 : List It) (h : UR w (gu + 1) gu (.slice none 0 0) ln nv (.map (some mb)) pp (.slice pa pb pc) rv its) (hlb : LbR w mb labs) (hla : Isa.Laid w) (hi : max 7 10 < gu)
    (hx : ∀ x, x ∈ its → Laid1 x ∧ GoodB labs x) (hx2 : ∀ x, x ∈ its2 → Laid1 x ∧ GoodB labs x) (hpos : 0 < its.length) (hn : its.length ≤ 3000) (hlab : ∀ nm k, labelAt nm labs = some k → k ≤ its.length)
    (hl1 : (tellU 0 its).getD its.length 0 ≤ 8000) (hlong : longU ⟨labs, its, firsts⟩ (tellU 0 its) 0 its = (its2, true)) (hl2 : (tellU 0 its2).getD its.length 0 ≤ 8000) (hlong2 : (longU ⟨labs, its2, firsts⟩ (tellU 0 its2) 0 its2).2 = false) :
    Calls Tryz.prog 27 #[.pointer (some ⟨gu, 0, none⟩)] w fun r w' => r = .returned (.int .i64 0) ∧ ∃ gp, w.heap.size ≤ gp ∧ LY w w' gu gp mb its.length nv pp rv ln labs its2 ∧ PlR w' gp its.length (its.length + 1) (tellU 0 its2) := by
  have hlen2 : its2.length = its.length := by have := longU_len ⟨labs, its, firsts⟩ (tellU 0 its) its 0; rw [hlong] at this; exact this
  have HB := Lib.hid (ly_begin h hlb hla hi)
  obtain ⟨iv, l, h1, h2, h3, h4⟩ := id h.its
  obtain ⟨ia, ic, rfl⟩ := row_shape h2
  have c4 : w.cell? ⟨gu, 4, none⟩ = some (.slice ia its.length ic) := blk_cell h1 rfl
  have c6 : w.cell? ⟨gu, 6, none⟩ = some (.slice pa pb pc) := blk_cell h1 rfl
  have f6 : w.frozen? ⟨gu, 6, none⟩ = false := blk_froz h1
  have hg := blk_lt h1
  have hmk : ∀ W, (Instr.makeSlice 42 (.int .i64 ((its.length : Int) + 1)) (.int .i64 ((its.length : Int) + 1))).run Tryz.prog W = .ok (.slice (some ⟨W.heap.size, 0, none⟩) (its.length + 1) (its.length + 1)) (W.alloc (.cells (madeCells #[.int .i64 0] (its.length + 1)) 3)) := fun W => makeI (its.length + 1) (by omega) W
  have HT1 := Lib.hid fun W (hW : LY w W gu w.heap.size mb its.length nv pp rv ln labs its) => tell_ly hW (Nat.le_refl _) hg (fun x hxx => (hx x hxx).1) (by omega) hi
  have HL1 := Lib.hid fun W (hW : LY w W gu w.heap.size mb its.length nv pp rv ln labs its) (hp : PlR W w.heap.size its.length (its.length + 1) (tellU 0 its)) => lengthen_ly firsts hW hp hx hn hi hlab hpos
  have HT2 := Lib.hid fun W (hW : LY w W gu w.heap.size mb its.length nv pp rv ln labs its2) => tell_ly hW (Nat.le_refl _) hg (fun x hxx => (hx2 x hxx).1) (by omega) hi
  have HL2 := Lib.hid fun W (hW : LY w W gu w.heap.size mb its.length nv pp rv ln labs its2) (hp : PlR W w.heap.size its.length (its.length + 1) (tellU 0 its2)) => lengthen_ly firsts hW hp hx2 hn hi hlab hpos
  rw [hlong] at HL1
  rw [longU_no _ _ _ _ hlong2, hlong2] at HL2
  have HBX : Hid (∀ W its', LY w W gu w.heap.size mb its.length nv pp rv ln labs its' → ∃ ja jc, gu < W.heap.size ∧ W.cell? ⟨gu, 4, none⟩ = some (.slice ja its.length jc) ∧ W.cell? ⟨gu, 6, none⟩ = some (.slice (some ⟨w.heap.size, 0, none⟩) (its.length + 1) (its.length + 1))) := fun W its' hW => by
    obtain ⟨iv, l, u1, u2, _⟩ := hW.it
    obtain ⟨ja, jc, rfl⟩ := row_shape u2
    refine ⟨ja, jc, blk_lt u1, ?_, blk_cell u1 rfl⟩
    rw [← hW.n]
    exact blk_cell u1 rfl
  have HPC : Hid (∀ W ps, PlR W w.heap.size its.length (its.length + 1) ps → w.heap.size < W.heap.size ∧ W.cell? ⟨w.heap.size, its.length, none⟩ = some (.int .i64 (ps.getD its.length 0))) := fun W ps hp => by
    obtain ⟨cs, q1, _, _, q4⟩ := hp
    exact ⟨blk_lt q1, blk_cell q1 (q4 its.length (by omega))⟩
  clear h h1 h2 h3 h4 hx hx2 hlb hla hlong hlong2
  go_enter Tryz.func27, Tryz.ntmps27
  go_wp2_with fail
  generalize (w.setCell ⟨gu, 6, none⟩ (.slice (some ⟨w.heap.size, 0, none⟩) (its.length + 1) (its.length + 1))).alloc (.cells (madeCells #[.int .i64 0] (its.length + 1)) 3) = W0 at *
  clear c4 c6 f6 hmk
  have hlt1 : ¬ (8000 : Int) < (tellU 0 its).getD its.length 0 := by omega
  have hlt2 : ¬ (8000 : Int) < (tellU 0 its2).getD its.length 0 := by omega
  refine wp_loop_rounds 2 ?_
  rw [rounds_succ]
  go_wp2_with (go_at_call 50; refine (HT1.out _ HB.out).mono ?_; rintro e' w1 ⟨rfl, hy1, hp1⟩; obtain ⟨ja, jc, hz1, d4, d6⟩ := HBX.out w1 its hy1; obtain ⟨hzp1, dp⟩ := HPC.out w1 _ hp1; have HY1 := Lib.hid hy1; have HP1 := Lib.hid hp1; clear hy1 hp1)
  generalize (tellU 0 its).getD its.length 0 = last1 at *
  go_quiet (fail)
  have hdr : Below w1.heap.size w1 (w1.drewN nq) := below_drewN (Below.refl _ _) _
  have HC1 := Lib.hid (HL1.out _ (HY1.out.go hdr) (HP1.out.go hdr))
  clear hdr HL1 HT1 HY1 HP1 d4 d6 dp
  go_wp2_with (go_at_call 51; refine HC1.out.mono ?_; rintro e' w2 ⟨rfl, hy2, _⟩; have HY2 := Lib.hid hy2; clear hy2)
  rw [rounds_succ]
  go_wp2_with (go_at_call 50; refine (HT2.out _ HY2.out).mono ?_; rintro e' w3 ⟨rfl, hy3, hp3⟩; obtain ⟨ka, kc, hz3, d4, d6⟩ := HBX.out w3 its2 hy3; obtain ⟨hzp3, dp⟩ := HPC.out w3 _ hp3; have HY3 := Lib.hid hy3; have HP3 := Lib.hid hp3; clear hy3 hp3)
  generalize hls : (tellU 0 its2).getD its.length 0 = last2 at *
  clear hls
  go_quiet (fail)
  have hdr : Below w3.heap.size w3 (w3.drewN nq) := below_drewN (Below.refl _ _) _
  have HC2 := Lib.hid (HL2.out _ (HY3.out.go hdr) (HP3.out.go hdr))
  clear hdr HL2 HT2 HY3 HP3 d4 d6 dp
  go_wp2_with (go_at_call 51; refine HC2.out.mono ?_; rintro e' w4 ⟨rfl, hy4, hp4⟩; have HY4 := Lib.hid hy4; have HP4 := Lib.hid hp4; clear hy4 hp4)
  go_returns
  exact ⟨rfl, w.heap.size, Nat.le_refl _, HY4.out, HP4.out⟩

set_option maxHeartbeats 4000000 in
theorem lay_one (w : World) (gu mb : Nat) (nv pp rv : Value) (pa : Option Addr) (pb pc : Nat) (ln : Int) (labs : List (List UInt8 × Nat)) (firsts : Nat → Nat) (its : List It) (h : UR w (gu + 1) gu (.slice none 0 0) ln nv (.map (some mb)) pp (.slice pa pb pc) rv its) (hlb : LbR w mb labs) (hla : Isa.Laid w) (hi : max 7 10 < gu)
    (hx : ∀ x, x ∈ its → Laid1 x ∧ GoodB labs x) (hpos : 0 < its.length) (hn : its.length ≤ 3000) (hlab : ∀ nm k, labelAt nm labs = some k → k ≤ its.length)
    (hl1 : (tellU 0 its).getD its.length 0 ≤ 8000) (hlong : (longU ⟨labs, its, firsts⟩ (tellU 0 its) 0 its).2 = false) :
    Calls Tryz.prog 27 #[.pointer (some ⟨gu, 0, none⟩)] w fun r w' => r = .returned (.int .i64 0) ∧ ∃ gp, w.heap.size ≤ gp ∧ LY w w' gu gp mb its.length nv pp rv ln labs its ∧ PlR w' gp its.length (its.length + 1) (tellU 0 its) := by
  have HB := Lib.hid (ly_begin h hlb hla hi)
  obtain ⟨iv, l, h1, h2, h3, h4⟩ := id h.its
  obtain ⟨ia, ic, rfl⟩ := row_shape h2
  have c4 : w.cell? ⟨gu, 4, none⟩ = some (.slice ia its.length ic) := blk_cell h1 rfl
  have c6 : w.cell? ⟨gu, 6, none⟩ = some (.slice pa pb pc) := blk_cell h1 rfl
  have f6 : w.frozen? ⟨gu, 6, none⟩ = false := blk_froz h1
  have hg := blk_lt h1
  have hmk : ∀ W, (Instr.makeSlice 42 (.int .i64 ((its.length : Int) + 1)) (.int .i64 ((its.length : Int) + 1))).run Tryz.prog W = .ok (.slice (some ⟨W.heap.size, 0, none⟩) (its.length + 1) (its.length + 1)) (W.alloc (.cells (madeCells #[.int .i64 0] (its.length + 1)) 3)) := fun W => makeI (its.length + 1) (by omega) W
  have HT1 := Lib.hid fun W (hW : LY w W gu w.heap.size mb its.length nv pp rv ln labs its) => tell_ly hW (Nat.le_refl _) hg (fun x hxx => (hx x hxx).1) (by omega) hi
  have HL1 := Lib.hid fun W (hW : LY w W gu w.heap.size mb its.length nv pp rv ln labs its) (hp : PlR W w.heap.size its.length (its.length + 1) (tellU 0 its)) => lengthen_ly firsts hW hp hx hn hi hlab hpos
  rw [longU_no _ _ _ _ hlong, hlong] at HL1
  have HBX : Hid (∀ W its', LY w W gu w.heap.size mb its.length nv pp rv ln labs its' → ∃ ja jc, gu < W.heap.size ∧ W.cell? ⟨gu, 4, none⟩ = some (.slice ja its.length jc) ∧ W.cell? ⟨gu, 6, none⟩ = some (.slice (some ⟨w.heap.size, 0, none⟩) (its.length + 1) (its.length + 1))) := fun W its' hW => by
    obtain ⟨iv, l, u1, u2, _⟩ := hW.it
    obtain ⟨ja, jc, rfl⟩ := row_shape u2
    refine ⟨ja, jc, blk_lt u1, ?_, blk_cell u1 rfl⟩
    rw [← hW.n]
    exact blk_cell u1 rfl
  have HPC : Hid (∀ W ps, PlR W w.heap.size its.length (its.length + 1) ps → w.heap.size < W.heap.size ∧ W.cell? ⟨w.heap.size, its.length, none⟩ = some (.int .i64 (ps.getD its.length 0))) := fun W ps hp => by
    obtain ⟨cs, q1, _, _, q4⟩ := hp
    exact ⟨blk_lt q1, blk_cell q1 (q4 its.length (by omega))⟩
  clear h h1 h2 h3 h4 hx hlb hla hlong
  go_enter Tryz.func27, Tryz.ntmps27
  go_wp2_with fail
  generalize (w.setCell ⟨gu, 6, none⟩ (.slice (some ⟨w.heap.size, 0, none⟩) (its.length + 1) (its.length + 1))).alloc (.cells (madeCells #[.int .i64 0] (its.length + 1)) 3) = W0 at *
  clear c4 c6 f6 hmk
  have hlt1 : ¬ (8000 : Int) < (tellU 0 its).getD its.length 0 := by omega
  refine wp_loop_rounds 1 ?_
  rw [rounds_succ]
  go_wp2_with (go_at_call 50; refine (HT1.out _ HB.out).mono ?_; rintro e' w1 ⟨rfl, hy1, hp1⟩; obtain ⟨ja, jc, hz1, d4, d6⟩ := HBX.out w1 its hy1; obtain ⟨hzp1, dp⟩ := HPC.out w1 _ hp1; have HY1 := Lib.hid hy1; have HP1 := Lib.hid hp1; clear hy1 hp1)
  generalize (tellU 0 its).getD its.length 0 = last1 at *
  go_quiet (fail)
  have hdr : Below w1.heap.size w1 (w1.drewN nq) := below_drewN (Below.refl _ _) _
  have HC1 := Lib.hid (HL1.out _ (HY1.out.go hdr) (HP1.out.go hdr))
  clear hdr HL1 HT1 HY1 HP1 d4 d6 dp
  go_wp2_with (go_at_call 51; refine HC1.out.mono ?_; rintro e' w2 ⟨rfl, hy2, hp2⟩; have HY2 := Lib.hid hy2; have HP2 := Lib.hid hp2; clear hy2 hp2)
  go_returns
  exact ⟨rfl, w.heap.size, Nat.le_refl _, HY2.out, HP2.out⟩

end Go.Proofs.YtagkmgdjkailkaaGreatDoor
