/- asm: the bytes of a branch that leads far. asm: places laid, where branches may have to be long. asm: lay, where a branch may have to be long: one round, or two. asm: all written, where branches may be long. asm: the unit of the three lines built. -/
import Derived.Test.YtjmjhbdlbmnllaaGreatDoorPut45
import Derived.Test.YtjmjhbdlbmnllaaGreatDoorPut47
import Derived.Test.YtjmjhbdlbmnllaaGreatDoorPut35
import Derived.Test.YtjmjhbdlbmnllaaGreatDoorPut40
import Derived.Test.YtjmjhbdlbmnllaaGreatDoorPut46
namespace Go.Proofs.YtjmjhbdlbmnllaaGreatDoor
open Go.RowKit

end Go.Proofs.YtjmjhbdlbmnllaaGreatDoor

namespace Go.Proofs.YtjmjhbdlbmnllaaGreatDoor
open Go.RowKit

/-- A branch's goal is a label that is there. -/
def GoodB (labs : List (List UInt8 × Nat)) (i : It) : Prop := match i.gen with
  | .lead op _ _ _ q => Isa.infoShape op = 4 → (i.size = 2 ∨ i.size = 6) ∧ ∃ nm add k, q = .val nm add ∧ nm ≠ [] ∧ nm.length ≤ maxLen ∧ -100000000000 ≤ add ∧ add ≤ 100000000000 ∧ labelAt nm labs = some k
  | _ => True

/-- The unit while places are laid. -/
structure LY (w W : World) (gu gp mb n : Nat) (nv pp rv : Value) (ln : Int) (labs : List (List UInt8 × Nat)) (its : List It) : Prop where
  it : ∃ iv l, W.heap[gu]? = some (.cells (uC (.slice none 0 0) ln nv (.map (some mb)) iv pp (.slice (some ⟨gp, 0, none⟩) (n + 1) (n + 1)) rv) 90 (0, 0)) ∧ W.ownsRow (gu + 1) 140 6 iv its.length (itC l) ∧ l.map (·.1) = its ∧ ∀ p, p ∈ l → GenR w gu p.1 p.2.1 p.2.2
  pl : PlR W gp n 0 []
  lb : LbR W mb labs
  la : Isa.Laid W
  km : KeepM w W
  bl : Below gu w W
  n : its.length = n

section
variable {w W : World} {gu gp mb n : Nat} {nv pp rv : Value} {ln : Int} {labs : List (List UInt8 × Nat)} {its : List It}

theorem LY.gen {x : It} {fa by' : Value} (h : LY w W gu gp mb n nv pp rv ln labs its) (hg : GenR w gu x fa by') : GenR W gu x fa by' :=
  hg.stays fun {q c t} a ht => h.km.2 q _ a (by rintro c' f e; injection e with _ e2; subst e2; exact absurd ht (by decide)) (by rintro c' f e; injection e with _ e2; subst e2; exact absurd ht (by decide))
theorem LY.ur (h : LY w W gu gp mb n nv pp rv ln labs its) : UR W (gu + 1) gu (.slice none 0 0) ln nv (.map (some mb)) pp (.slice (some ⟨gp, 0, none⟩) (n + 1) (n + 1)) rv its := by
  obtain ⟨iv, l, u1, u2, u3, u4⟩ := h.it
  exact ⟨by omega, blk_lt u1, iv, l, u1, u2, u3, fun p hp => h.gen (u4 p hp)⟩

/-- One block changes: a row of items, or places of one's own. -/
theorem LY.grown {W' : World} {its' : List It} {g : Nat} {cur : Array Value} {t : TypeId} (h : LY w W gu gp mb n nv pp rv ln labs its) (hg : W.grownBy W' (some g)) (ht : W.heap[g]? = some (.cells cur t (0, 0))) (hlt : gu < g) (hty : t = 140 ∨ w.heap.size ≤ g)
    (hit : ∃ iv l, W'.heap[gu]? = some (.cells (uC (.slice none 0 0) ln nv (.map (some mb)) iv pp (.slice (some ⟨gp, 0, none⟩) (n + 1) (n + 1)) rv) 90 (0, 0)) ∧ W'.ownsRow (gu + 1) 140 6 iv its'.length (itC l) ∧ l.map (·.1) = its' ∧ ∀ p, p ∈ l → GenR w gu p.1 p.2.1 p.2.2) (hpl : PlR W' gp n 0 []) (hn : its'.length = n) (hi : max 0 1 < gu) : LY w W' gu gp mb n nv pp rv ln labs its' := by
  have hb : Below gu W W' := ⟨hg.os, hg.tape, hg.output, hg.size, fun i hi => hg.block i (by have := blk_lt ht; omega) (by intro e; injection e with e; omega)⟩
  refine ⟨hit, hpl, h.lb.grown hg ?_, h.la.below hb hi, ⟨Nat.le_trans h.km.1 hg.size, fun q o hq h1 h2 => ?_⟩, h.bl.trans hb, hn⟩
  · intro e
    injection e with e
    obtain ⟨D, ⟨es, ck, hb, F⟩, hd⟩ := h.lb
    subst e
    rw [ht] at hb
    cases hb
  · have hq1 := h.km.2 q o hq h1 h2
    rw [hg.block q (blk_lt hq1) ?_]
    · exact hq1
    · intro e
      injection e with e
      subst e
      rcases hty with rfl | hty
      · rw [ht] at hq1
        injection hq1 with hq1
        exact h2 _ _ hq1.symm
      · have := blk_lt hq
        omega

theorem tell_ly (h : LY w W gu gp mb n nv pp rv ln labs its) (hgp : w.heap.size ≤ gp) (hgu : gu < w.heap.size) (hx : ∀ x, x ∈ its → Laid1 x) (hn : n ≤ 100000) (hi : max 0 1 < gu) :
    Calls Tryz.prog 60 #[.pointer (some ⟨gu, 0, none⟩)] W fun r W' => r = .returned (.tuple #[]) ∧ LY w W' gu gp mb n nv pp rv ln labs its ∧ PlR W' gp n (n + 1) (tellU 0 its) := by
  obtain rfl := h.n
  refine (tell_any gu (gu + 1) gp _ nv _ pp rv ln its W h.ur h.pl hx hn).mono ?_
  rintro r W' ⟨rfl, hp, hg⟩
  obtain ⟨cs, k1, _⟩ := h.pl
  obtain ⟨iv, l, u1, u2, u3, u4⟩ := h.it
  have hne : ∀ {q : Nat} {c : Array Value} {t : TypeId}, W.heap[q]? = some (.cells c t (0, 0)) → t ≠ 3 → W'.heap[q]? = some (.cells c t (0, 0)) := fun {q c t} hq ht => by
    rw [hg.block q (blk_lt hq) (by
      intro e
      injection e with e
      subst e
      rw [k1] at hq; injection hq with hq; injection hq with _ e2; exact ht e2.symm)]
    exact hq
  refine ⟨rfl, h.grown hg k1 (by omega) (.inr hgp) ⟨iv, l, hne u1 (by decide), ?_, u3, u4⟩ ?_ rfl hi, hp⟩
  · refine ⟨u2.1, ?_⟩
    rcases u2.2 with h5 | ⟨q, cap, cur, h5, h6, h7, h8⟩
    · exact .inl h5
    · exact .inr ⟨q, cap, cur, h5, h6, hne h7 (by decide), h8⟩
  · obtain ⟨cs', a1, a2, a3, _⟩ := hp
    exact ⟨cs', a1, a2, a3, fun i hi => by omega⟩

theorem lengthen_ly (firsts : Nat → Nat) (h : LY w W gu gp mb n nv pp rv ln labs its) (hp : PlR W gp n (n + 1) (tellU 0 its)) (hx : ∀ x, x ∈ its → Laid1 x ∧ GoodB labs x) (hn : n ≤ 3000) (hi : max 0 1 < gu) (hlab : ∀ nm k, labelAt nm labs = some k → k ≤ n) (hpos : 0 < n) :
    Calls Tryz.prog 61 #[.pointer (some ⟨gu, 0, none⟩)] W fun r W' => r = .returned (.bool (longU ⟨labs, its, firsts⟩ (tellU 0 its) 0 its).2) ∧ LY w W' gu gp mb n nv pp rv ln labs (longU ⟨labs, its, firsts⟩ (tellU 0 its) 0 its).1 ∧ PlR W' gp n (n + 1) (tellU 0 its) := by
  obtain rfl := h.n
  obtain ⟨iv, l, u1, u2, u3, u4⟩ := h.it
  have hbd : ∀ k, 0 ≤ (tellU 0 its).getD k 0 ∧ (tellU 0 its).getD k 0 ≤ 1000000 := fun k => by
    by_cases hk : k ≤ its.length
    · have := tell_bounds its 0 k (Int.le_refl _) (fun x hxx => (hx x hxx).1) hk
      omega
    · have : (tellU 0 its).getD k 0 = 0 := by
        rw [List.getD_eq_getElem?_getD, List.getElem?_eq_none (by rw [tell_len]; omega)]
        rfl
      omega
  let x : SU := ⟨gu, gp, mb, its.length, .slice none 0 0, nv, iv, pp, ln, labs, tellU 0 its, firsts⟩
  have hs : S0 x W := ⟨hp, h.lb, h.la, hi, by show its.length ≤ 100000; omega, hbd, hlab⟩
  refine (lengthen_any x rv (gu + 1) its l w W (fun _ _ _ hh => h.gen hh) hs (by show gu < gu + 1; omega) u1 u2 u3 u4 rfl (fun i hii => ?_)).mono ?_
  · have hgi := (hx i hii).2
    unfold GoodB at hgi
    unfold FarOk
    cases hgen : i.gen with
    | fill => trivial
    | num nm m => trivial
    | plain op a b c => trivial
    | lead op a b c q =>
      rw [hgen] at hgi
      simp only at hgi ⊢
      intro h4
      obtain ⟨hsz, nm, add, k, rfl, hnn, hnl, ha1, ha2, hk⟩ := hgi h4
      refine ⟨hsz, ⟨hnl, ha1, ha2⟩, (tellU 0 its).getD k 0 + add, ?_⟩
      show goalU ⟨labs, its, firsts⟩ (tellU 0 its) (.val nm add) = _
      simp only [goalU, placeU, hnn, if_false, hk]
  · rintro r W' ⟨rfl, ⟨l', k1, k2, k3⟩, hg⟩
    refine ⟨rfl, ?_⟩
    rcases u2.2 with ⟨h5, h0⟩ | ⟨g, cap, cur, h5, h6, h7, h8⟩
    · omega
    · have hov : x.iv.ownBlock = some g := by show iv.ownBlock = some g; rw [h5]; rfl
      rw [hov] at hg
      have hne : ∀ {q : Nat} {o : Obj}, W.heap[q]? = some o → (∀ c, o ≠ .cells c 140 (0, 0)) → W'.heap[q]? = some o := fun {q o} hq ho => by
        rw [hg.block q (blk_lt hq) (by
          intro e
          injection e with e
          subst e
          rw [h7] at hq; injection hq with hq; exact ho _ hq.symm)]
        exact hq
      obtain ⟨cs, p1, p2, p3, p4⟩ := hp
      have p1' := hne p1 (by intro c e; injection e with _ e2; exact absurd e2 (by decide))
      refine ⟨h.grown hg h7 (by omega) (.inl rfl) ⟨iv, l', hne u1 (by intro c e; injection e with _ e2; exact absurd e2 (by decide)), ?_, k1, ?_⟩ ⟨cs, p1', p2, p3, fun i hi => by omega⟩ (longU_len _ _ _ _) hi, ⟨cs, p1', p2, p3, p4⟩⟩
      · rw [longU_len]
        exact k2
      · exact k3
end

end Go.Proofs.YtjmjhbdlbmnllaaGreatDoor

namespace Go.Proofs.YtjmjhbdlbmnllaaGreatDoor
open Go.RowKit

theorem longU_no (u : Un) (ps : List Int) : ∀ (l : List It) (k : Nat), (longU u ps k l).2 = false → (longU u ps k l).1 = l
  | [], k, _ => rfl
  | x :: l, k, h => by
    rw [longU_cons] at h ⊢
    simp only [Bool.or_eq_false_iff] at h
    simp only [long1, h.1, longU_no u ps l _ h.2]
    rfl

section
variable {w : World} {gu mb : Nat} {nv pp pv rv : Value} {ln : Int} {labs : List (List UInt8 × Nat)} {its : List It}

theorem LY.go {w W W' : World} {gu gp mb n : Nat} {nv pp rv : Value} {ln : Int} {labs : List (List UInt8 × Nat)} {its : List It} (h : LY w W gu gp mb n nv pp rv ln labs its) (hb : Below W.heap.size W W') : LY w W' gu gp mb n nv pp rv ln labs its := by
  obtain ⟨iv, l, u1, u2, u3, u4⟩ := h.it
  exact ⟨⟨iv, l, (hb.block _ (blk_lt u1)).trans u1, Sc.owns_below u2 hb (Nat.le_refl _), u3, u4⟩, h.pl.go hb, h.lb.go hb, h.la.below hb h.la.sz, h.km.trans (KeepM.of hb), h.bl.trans (hb.mono (Nat.le_of_lt (blk_lt u1))), h.n⟩

theorem ly_begin (h : UR w (gu + 1) gu (.slice none 0 0) ln nv (.map (some mb)) pp pv rv its) (hlb : LbR w mb labs) (hla : Isa.Laid w) (hi : max 0 1 < gu) :
    LY w ((w.setCell ⟨gu, 6, none⟩ (.slice (some ⟨w.heap.size, 0, none⟩) (its.length + 1) (its.length + 1))).alloc (.cells (madeCells #[.int .i64 0] (its.length + 1)) 3)) gu w.heap.size mb its.length nv pp rv ln labs its := by
  obtain ⟨iv, l, u1, u2, u3, u4⟩ := h.its
  have hg := blk_lt u1
  have kp : ∀ {q : Nat} {o : Obj}, w.heap[q]? = some o → q ≠ gu → ((w.setCell ⟨gu, 6, none⟩ (.slice (some ⟨w.heap.size, 0, none⟩) (its.length + 1) (its.length + 1))).alloc (.cells (madeCells #[.int .i64 0] (its.length + 1)) 3)).heap[q]? = some o := fun {q o} hq hne => by
    rw [old2 _ _ (by simpa using blk_lt hq), Below.heap_setCell _ _ _ _ hne]
    exact hq
  refine ⟨⟨iv, l, ?_, ?_, u3, u4⟩, ?_, ?_, ?_, ⟨by simp, fun q o hq h1 _ => kp hq (by rintro rfl; rw [u1] at hq; injection hq with hq; exact h1 _ _ hq.symm)⟩, ?_, rfl⟩
  · rw [old2 _ _ (by simpa using hg)]
    exact blk_set u1
  · refine ⟨u2.1, ?_⟩
    rcases u2.2 with h5 | ⟨q, cap, cur, h5, h6, h7, h8⟩
    · exact .inl h5
    · exact .inr ⟨q, cap, cur, h5, h6, kp h7 (by omega), h8⟩
  · have := PlR.made (w.setCell ⟨gu, 6, none⟩ (.slice (some ⟨w.heap.size, 0, none⟩) (its.length + 1) (its.length + 1))) its.length
    simpa using this
  · obtain ⟨D, ⟨es, ck, hb, F⟩, hd⟩ := hlb
    exact ⟨D, ⟨es, ck, kp hb (by rintro rfl; rw [u1] at hb; cases hb), F⟩, hd⟩
  · exact hla.below (B := gu) (((Below.refl gu w).setCell (p := ⟨gu, 6, none⟩) (Nat.le_refl _) _).alloc (by simp; omega) _) hi
  · exact ((Below.refl gu w).setCell (p := ⟨gu, 6, none⟩) (Nat.le_refl _) _).alloc (by simp; omega) _
end

set_option maxHeartbeats 4000000 in
theorem lay_one (w : World) (gu mb : Nat) (nv pp rv : Value) (pa : Option Addr) (pb pc : Nat) (ln : Int) (labs : List (List UInt8 × Nat)) (firsts : Nat → Nat) (its : List It) (h : UR w (gu + 1) gu (.slice none 0 0) ln nv (.map (some mb)) pp (.slice pa pb pc) rv its) (hlb : LbR w mb labs) (hla : Isa.Laid w) (hi : max 0 1 < gu)
    (hx : ∀ x, x ∈ its → Laid1 x ∧ GoodB labs x) (hpos : 0 < its.length) (hn : its.length ≤ 3000) (hlab : ∀ nm k, labelAt nm labs = some k → k ≤ its.length)
    (hl1 : (tellU 0 its).getD its.length 0 ≤ 8000) (hlong : (longU ⟨labs, its, firsts⟩ (tellU 0 its) 0 its).2 = false) :
    Calls Tryz.prog 36 #[.pointer (some ⟨gu, 0, none⟩)] w fun r w' => r = .returned (.int .i64 0) ∧ ∃ gp, w.heap.size ≤ gp ∧ LY w w' gu gp mb its.length nv pp rv ln labs its ∧ PlR w' gp its.length (its.length + 1) (tellU 0 its) := by
  have HB := Lib.hid (ly_begin h hlb hla hi)
  obtain ⟨iv, l, h1, h2, h3, h4⟩ := id h.its
  obtain ⟨ia, ic, rfl⟩ := row_shape h2
  have c4 : w.cell? ⟨gu, 4, none⟩ = some (.slice ia its.length ic) := blk_cell h1 rfl
  have c6 : w.cell? ⟨gu, 6, none⟩ = some (.slice pa pb pc) := blk_cell h1 rfl
  have f6 : w.frozen? ⟨gu, 6, none⟩ = false := blk_froz h1
  have hg := blk_lt h1
  have hmk : ∀ W, (Instr.makeSlice 88 (.int .i64 ((its.length : Int) + 1)) (.int .i64 ((its.length : Int) + 1))).run Tryz.prog W = .ok (.slice (some ⟨W.heap.size, 0, none⟩) (its.length + 1) (its.length + 1)) (W.alloc (.cells (madeCells #[.int .i64 0] (its.length + 1)) 3)) := fun W => makeI (its.length + 1) (by omega) W
  have HT1 := Lib.hid fun W (hW : LY w W gu w.heap.size mb its.length nv pp rv ln labs its) => tell_ly hW (Nat.le_refl _) hg (fun x hxx => (hx x hxx).1) (by omega) hi
  have HL1 := Lib.hid fun W (hW : LY w W gu w.heap.size mb its.length nv pp rv ln labs its) (hp : PlR W w.heap.size its.length (its.length + 1) (tellU 0 its)) => lengthen_ly firsts hW hp hx hn hi hlab hpos
  rw [longU_no _ _ _ _ hlong, hlong] at HL1
  have HBX : Hid (∀ W its', LY w W gu w.heap.size mb its.length nv pp rv ln labs its' → ∃ ja jc, gu < W.heap.size ∧ W.cell? ⟨gu, 4, none⟩ = some (.slice ja its.length jc) ∧ W.cell? ⟨gu, 6, none⟩ = some (.slice (some ⟨w.heap.size, 0, none⟩) (its.length + 1) (its.length + 1))) := fun W its' hW => by
    obtain ⟨iv, l, u1, u2, _⟩ := hW.it
    obtain ⟨ja, jc, rfl⟩ := row_shape u2
    refine ⟨ja, jc, blk_lt u1, ?_, blk_cell u1 rfl⟩
    rw [← hW.n]
    exact blk_cell u1 rfl
  have HPC : Hid (∀ W ps, PlR W w.heap.size its.length (its.length + 1) ps → w.heap.size < W.heap.size ∧ W.cell? ⟨w.heap.size, its.length, none⟩ = some (.int .i64 (ps.getD its.length 0))) := fun W ps hp => by
    obtain ⟨cs, q1, _, _, q4⟩ := hp
    exact ⟨blk_lt q1, blk_cell q1 (q4 its.length (by omega))⟩
  clear h h1 h2 h3 h4 hx hlb hla hlong
  go_enter Tryz.func36, Tryz.ntmps36
  go_wp2_with fail
  generalize (w.setCell ⟨gu, 6, none⟩ (.slice (some ⟨w.heap.size, 0, none⟩) (its.length + 1) (its.length + 1))).alloc (.cells (madeCells #[.int .i64 0] (its.length + 1)) 3) = W0 at *
  clear c4 c6 f6 hmk
  have hlt1 : ¬ (8000 : Int) < (tellU 0 its).getD its.length 0 := by omega
  refine wp_loop_rounds 1 ?_
  rw [rounds_succ]
  go_wp2_with (go_at_call 60; refine (HT1.out _ HB.out).mono ?_; rintro e' w1 ⟨rfl, hy1, hp1⟩; obtain ⟨ja, jc, hz1, d4, d6⟩ := HBX.out w1 its hy1; obtain ⟨hzp1, dp⟩ := HPC.out w1 _ hp1; have HY1 := Lib.hid hy1; have HP1 := Lib.hid hp1; clear hy1 hp1)
  generalize (tellU 0 its).getD its.length 0 = last1 at *
  go_quiet (fail)
  have hdr : Below w1.heap.size w1 (w1.drewN nq) := below_drewN (Below.refl _ _) _
  have HC1 := Lib.hid (HL1.out _ (HY1.out.go hdr) (HP1.out.go hdr))
  clear hdr HL1 HT1 HY1 HP1 d4 d6 dp
  go_wp2_with (go_at_call 61; refine HC1.out.mono ?_; rintro e' w2 ⟨rfl, hy2, hp2⟩; have HY2 := Lib.hid hy2; have HP2 := Lib.hid hp2; clear hy2 hp2)
  go_returns
  exact ⟨rfl, w.heap.size, Nat.le_refl _, HY2.out, HP2.out⟩

end Go.Proofs.YtjmjhbdlbmnllaaGreatDoor

namespace Go.Proofs.YtjmjhbdlbmnllaaGreatDoor
open Go.RowKit

end Go.Proofs.YtjmjhbdlbmnllaaGreatDoor

namespace Go.Proofs.YtjmjhbdlbmnllaaGreatDoor
open Go.RowKit Go.Maps Go.MapKept

theorem Begun.al {w W : World} {gu mb gp mi : Nat} (h : Begun w W gu mb gp mi) : AlR w W gu mb gp mi 0 [] [] false :=
  ⟨h.bx, ⟨_, h.ur, World.ownsRow_nil _ _ _ _⟩, lbr_nil h.mp, by simp only [Bool.false_eq_true, if_false]; exact ⟨h.po, h.mq⟩⟩

end Go.Proofs.YtjmjhbdlbmnllaaGreatDoor
