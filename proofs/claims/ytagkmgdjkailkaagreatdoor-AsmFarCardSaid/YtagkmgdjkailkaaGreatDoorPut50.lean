/- asm: all written, where branches may be long. asm: the lines that come of AsmFar's source, and what they make. asm: lines of a branch and what it leads over: what they make. What comes of AsmFar's lines: functions of lists; no program in this text. asm: the unit of AsmFar's source. -/
import Derived.Test.YtagkmgdjkailkaaGreatDoorPut49
import Derived.Test.YtagkmgdjkailkaaGreatDoorPut45
import Derived.Test.YtagkmgdjkailkaaGreatDoorPut47
import Derived.Test.YtagkmgdjkailkaaGreatDoorPut48
import Derived.Test.YtagkmgdjkailkaaGreatDoorPut46
import Derived.Test.YtagkmgdjkailkaaGreatDoorPut2
namespace Go.Proofs.YtagkmgdjkailkaaGreatDoor
open Go.RowKit

/-- What is asked of an item. -/
def FarEnd (i : It) : Prop :=
  Laid1 i ∧ (1 ≤ i.align ∧ i.align ≤ 16) ∧ i.upTo = 1 ∧
  match i.gen with
  | .fill => False
  | .num nm add => (i.size = 1 ∨ i.size = 2 ∨ i.size = 4) ∧ nm.length ≤ maxLen ∧ -100000000000 ≤ add ∧ add ≤ 100000000000
  | .plain _ _ _ _ => True
  | .lead op _ _ _ q => (i.size = 2 ∨ i.size = 6 ∧ (op = 17 ∨ op = 18)) ∧ ∃ nm add, q = .val nm add ∧ nm.length ≤ maxLen ∧ -100000000000 ≤ add ∧ add ≤ 100000000000

theorem write_far {w0 w W' : World} {gu gp mb n : Nat} {nv pp : Value} {ln : Int} {labs : List (List UInt8 × Nat)} {firsts : Nat → Nat} {its : List It} {code : List UInt8} {rs : List Re} (hbx : Bx w0 w) (hge : w0.heap.size + 2 ≤ gu) (hy : LY w W' gu gp mb n nv pp (.slice none 0 0) ln labs its) (hpl : PlR W' gp n (n + 1) (tellU 0 its)) (hnv : w.ownsRow (gu + 1) 9 1 nv labs.length (nameC labs)) (hi : max 7 10 < gu) (hn : n ≤ 3000) (hok : ∀ i, i ∈ its → FarEnd i)
    (hwr : writeU ⟨labs, its, firsts⟩ (tellU 0 its) 0 [] [] its = .ok (code, rs)) (hcl : code.length ≤ 100000 ∧ rs.length ≤ 100000) (lbk : ∀ nm k, labelAt nm labs = some k → k ≤ n) (lbs : ∀ j (h : j < labs.length), labelAt labs[j].1 labs = some labs[j].2 ∧ labs[j].1.length ≤ maxLen) (ll : labs.length ≤ 100000) :
    Calls Tryz.prog 28 #[.pointer (some ⟨gu, 0, none⟩)] W' fun r w' => ∃ ca cl cc sa sl sc qa ql qc, r = .returned (.tuple #[.agg #[.slice ca cl cc, .slice sa sl sc, .slice qa ql qc], .agg #[.int .i64 0, .int .i64 0]]) ∧ ObjAt w' (.slice ca cl cc) (.slice sa sl sc) (.slice qa ql qc) ⟨code, symsU ⟨labs, its, firsts⟩ (tellU 0 its), rs⟩ ∧ Bx w0 w' := by
  obtain rfl := hy.n
  obtain ⟨iv, l, u1, u2, u3, u4⟩ := hy.it
  have kp : ∀ {q : Nat} {c : Array Value} {t : TypeId}, w.heap[q]? = some (.cells c t (0, 0)) → t ≠ 79 → t ≠ 131 → W'.heap[q]? = some (.cells c t (0, 0)) := fun {q c t} hq h1 h2 => hy.km.2 _ _ hq (by intro c' f e; injection e with _ e3; exact h1 e3) (by intro c' f e; injection e with _ e3; exact h2 e3)
  have hnv' : W'.ownsRow (gu + 1) 9 1 nv labs.length (nameC labs) := by
    refine ⟨hnv.1, ?_⟩
    rcases hnv.2 with h5 | ⟨g, cap, cur, h5, h6, h7, h8⟩
    · exact .inl h5
    · exact .inr ⟨g, cap, cur, h5, h6, kp h7 (by decide) (by decide), h8⟩
  have hbd : ∀ k, 0 ≤ (tellU 0 its).getD k 0 ∧ (tellU 0 its).getD k 0 ≤ 900000 := fun k => by
    by_cases hk : k ≤ its.length
    · have := tell_bounds its 0 k (Int.le_refl _) (fun x hx => (hok x hx).1) hk
      omega
    · have : (tellU 0 its).getD k 0 = 0 := by
        rw [List.getD_eq_getElem?_getD, List.getElem?_eq_none (by rw [tell_len]; omega)]
        rfl
      omega
  let x : SU := ⟨gu, gp, mb, its.length, .slice none 0 0, nv, iv, pp, ln, labs, tellU 0 its, firsts⟩
  have hs : S0 x W' := ⟨hpl, hy.lb, hy.la, hi, by show its.length ≤ 100000; omega, fun k => ⟨(hbd k).1, Int.le_trans (hbd k).2 (by decide)⟩, lbk⟩
  have hll : l.length = its.length := by rw [← u3]; simp
  refine (write_any x (gu + 1) W' its l code rs hs u1 u2 u3 rfl (fun p hp => (hy.gen (u4 p hp)).shape.1) (fun i hi => (hok i hi).2.1) ?_ hwr hcl.1 hcl.2 hnv' lbs ll).mono ?_
  · intro k hk rs1 rs2 b hrs hb
    have hki : k < its.length := by omega
    have hlk : l[k].1 = its[k] := by subst u3; simp
    have hokk := hok its[k] (List.getElem_mem _)
    have hstep := tell_step its 0 k hki
    have hb0 := hbd k
    obtain ⟨_, _, hup, hlast⟩ := hokk
    have hz1 : (its[k].upTo - ((tellU 0 its).getD k 0).tmod its[k].upTo).tmod its[k].upTo = 0 := by rw [hup]; exact Int.tmod_one _
    have hsz : (tellU 0 its).getD (k + 1) 0 - (tellU 0 its).getD k 0 = its[k].size := by omega
    have hG := hy.gen (u4 _ (List.getElem_mem (l := l) (n := k) hk))
    rw [hsz] at hb ⊢
    cases hg : its[k].gen with
    | fill => rw [hg] at hlast; exact hlast.elim
    | num nm add =>
      rw [hg] at hlast
      simp only at hlast
      refine bytes_any x W' its l[k].1 l[k].2.1 l[k].2.2 _ _ rs1 rs2 b hG ?_ hb0.1 (by show (tellU 0 its).getD k 0 ≤ 1000000; omega) hrs hb
      rw [hlk]
      unfold ItOk
      rw [hg]
      simp only
      exact ⟨hlast.1, hlast.2.1, by omega, by omega⟩
    | plain op a m imm =>
      refine bytes_any x W' its l[k].1 l[k].2.1 l[k].2.2 _ _ rs1 rs2 b hG ?_ hb0.1 (by show (tellU 0 its).getD k 0 ≤ 1000000; omega) hrs hb
      rw [hlk]
      unfold ItOk
      rw [hg]
      trivial
    | lead op a m imm q =>
      rw [hg] at hlast
      simp only at hlast
      obtain ⟨hss, nm, add, rfl, q1, q2, q3⟩ := hlast
      rcases hss with e2 | ⟨e6, hop⟩
      · refine bytes_any x W' its l[k].1 l[k].2.1 l[k].2.2 _ _ rs1 rs2 b hG ?_ hb0.1 (by show (tellU 0 its).getD k 0 ≤ 1000000; omega) hrs hb
        rw [hlk]
        unfold ItOk
        rw [hg]
        simp only
        exact ⟨by rw [e2]; decide, q1, q2, q3⟩
      · rw [e6] at hb ⊢
        exact bytes_six x W' its l[k].1 op a m imm (.val nm add) (by rw [hlk]; exact hg) hop l[k].2.1 l[k].2.2 _ rs1 rs2 b hG ⟨q1, q2, q3⟩ hb0.1 hb0.2 hb
  · rintro r w' ⟨ca, cl, cc, sa, sl, sc, qa, ql, qc, rfl, h1, h2, h3, h4⟩
    have hx0 := kp hbx.x0 (by decide) (by decide)
    have hx1 := kp hbx.x1 (by decide) (by decide)
    have h4' : Fr gu W'.heap.size W' w' := h4
    have hB' : Below w0.heap.size w0 W' := hbx.bel.trans (hy.bl.mono (by omega))
    refine ⟨ca, cl, cc, sa, sl, sc, qa, ql, qc, rfl, ⟨h1, h2, h3⟩, ⟨hB'.trans ((h4'.lowd (Nat.le_of_lt (blk_lt u1))).mono (by omega)), ?_, ?_⟩⟩
    · rw [h4'.block _ (blk_lt hx0) (by omega)]; exact hx0
    · rw [h4'.block _ (blk_lt hx1) (by omega)]; exact hx1

end Go.Proofs.YtagkmgdjkailkaaGreatDoor

namespace Go.Proofs.YtagkmgdjkailkaaGreatDoor
open Go.RowKit

def plF (back : Bool) (q r : Nat) : List Pl := if back then [.one, .one, .rep q, .rep r, .one] else [.one, .rep q, .rep r, .one, .one]

inductive LK where
  | br | word | nop | rts

def toksK (nt : Bool) : LK → List Tk
  | .br => (brT nt).map tkOf
  | .word => wordT.map tkOf
  | .nop => nopT.map tkOf
  | .rts => rtsT.map tkOf
def ksF (back : Bool) (q r : Nat) : List (Int × LK) :=
  if back then [(1, .rts), (2, .nop)] ++ (List.replicate q (4, .word) ++ (List.replicate r (7, .nop) ++ [(9, .br)]))
  else [(1, .br)] ++ (List.replicate q (3, .word) ++ (List.replicate r (6, .nop) ++ [(8, .rts), (9, .nop)]))
theorem pl_lines (back nt : Bool) (q r : Nat) : (plLines (farLn back nt q r) (plF back q r)).map lnOf = (ksF back q r).map fun a => (a.1, toksK nt a.2) := by
  cases back
  · simp only [plLines, plF, ksF, Bool.false_eq_true, if_false, idxOf, List.map_append, List.map_cons, List.map_nil, List.map_replicate]
    rfl
  · simp only [plLines, plF, ksF, if_true, idxOf, List.map_append, List.map_cons, List.map_nil, List.map_replicate]
    rfl

theorem plain_of {ts : List Sc.Tok} {s : List UInt8} (h : headS (ts.map tkOf) = ⟨s.toArray⟩) (hs : ∀ q, q ∈ heads → (s == q) = false) : PlainHead (headS (ts.map tkOf)) := by
  intro q hq
  rw [h, ByteArray.toList_eq]
  simpa using hs q hq
theorem ph_br (nt : Bool) : PlainHead (headS ((brT nt).map tkOf)) := by
  cases nt
  · exact plain_of (s := [98, 116]) rfl (by decide)
  · exact plain_of (s := [98, 102]) rfl (by decide)
theorem ph_nop : PlainHead (headS (nopT.map tkOf)) := plain_of (s := [110, 111, 112]) rfl (by decide)
theorem ph_rts : PlainHead (headS (rtsT.map tkOf)) := plain_of (s := [116, 104, 101, 114, 101]) rfl (by decide)
theorem ph_word : PlainHead (headS (wordT.map tkOf)) := plain_of (s := [46, 119, 111, 114, 100]) rfl (by decide)

theorem rep_atom (m : Nat) (h : m < 1000) : AtomK 2 (m : Int) ⟨#[]⟩ ⟨#[]⟩ m := .inl ⟨rfl, rfl, by unfold wrap32; omega⟩

theorem pl_ok (back nt : Bool) (q r : Nat) (hq : q < 1000) (hr : r < 1000) : PlOk (farLn back nt q r) 0 (plF back q r) := by
  cases back
  · refine ⟨⟨_, rfl, ph_br nt⟩, ⟨_, _, _, _, _, _, rfl, rfl, rfl, rfl, rfl, rep_atom q hq, ph_word, rfl, rfl⟩, ⟨_, _, _, _, _, _, rfl, rfl, rfl, rfl, rfl, rep_atom r hr, ph_nop, rfl, rfl⟩, ⟨_, rfl, ph_rts⟩, ⟨_, rfl, ph_nop⟩, rfl⟩
  · refine ⟨⟨_, rfl, ph_rts⟩, ⟨_, rfl, ph_nop⟩, ⟨_, _, _, _, _, _, rfl, rfl, rfl, rfl, rfl, rep_atom q hq, ph_word, rfl, rfl⟩, ⟨_, _, _, _, _, _, rfl, rfl, rfl, rfl, rfl, rep_atom r hr, ph_nop, rfl, rfl⟩, ⟨_, rfl, ph_br nt⟩, rfl⟩

/-! What lines make. -/
def opB (nt : Bool) : Int := if nt then 18 else 17
def itK (nt : Bool) (a : Int × LK) : List It := match a.2 with
  | .br => [ledI a.1 (opB nt) 2 nmThere]
  | .word => List.replicate 30 (numI a.1 2 [] 9)
  | .nop => [plainI a.1 1 0 0 0]
  | .rts => [plainI a.1 2 0 0 0]
def itsK (nt : Bool) (l : List (Int × LK)) : List It := l.flatMap (itK nt)
/-- Labels: each rts bears the one. -/
def labsK (nt : Bool) : Nat → List (Int × LK) → List (List UInt8 × Nat)
  | _, [] => []
  | c, (ln, .rts) :: r => (nmThere, c) :: labsK nt (c + (itK nt (ln, .rts)).length) r
  | c, (ln, .br) :: r => labsK nt (c + (itK nt (ln, .br)).length) r
  | c, (ln, .word) :: r => labsK nt (c + (itK nt (ln, .word)).length) r
  | c, (ln, .nop) :: r => labsK nt (c + (itK nt (ln, .nop)).length) r
def labK : LK → Nat → List (List UInt8 × Nat)
  | .rts, c => [(nmThere, c)]
  | _, _ => []
theorem labsK_cons (nt : Bool) (c : Nat) (a : Int × LK) (r : List (Int × LK)) : labsK nt c (a :: r) = labK a.2 c ++ labsK nt (c + (itK nt a).length) r := by
  obtain ⟨ln, k⟩ := a
  cases k <;> rfl
theorem labsK_snoc (nt : Bool) (a : Int × LK) : ∀ (l : List (Int × LK)) (c : Nat), labsK nt c (l ++ [a]) = labsK nt c l ++ labK a.2 (c + (itsK nt l).length)
  | [], c => by simp [labsK_cons, labsK, itsK]
  | b :: l, c => by
    rw [List.cons_append, labsK_cons, labsK_snoc nt a l, labsK_cons, List.append_assoc]
    congr 2
    simp only [itsK, List.flatMap_cons, List.length_append]
    rw [Nat.add_assoc]
theorem itsK_snoc (nt : Bool) (l : List (Int × LK)) (a : Int × LK) : itsK nt (l ++ [a]) = itsK nt l ++ itK nt a := by simp [itsK]

section
variable (w W : World) (gu mb gp mi : Nat) (v : Value)

/-- One line, whichever it is. -/
theorem read_k (nt : Bool) (ln : Int) (k : LK) (labs : List (List UInt8 × Nat)) (its : List It) (hA : AllLaid w) (hge : w.heap.size + 2 ≤ gu ∧ w.heap.size + 2 ≤ mb ∧ w.heap.size + 2 ≤ gp ∧ w.heap.size + 2 ≤ mi) (hlt : mb < gu ∧ gp < gu ∧ mi < gu) (hne : mi ≠ mb) (h : AlR w W gu mb gp mi ln labs its false) (hits : its.length ≤ 90000) (hlab : ∀ c, labK k c ≠ [] → labs = []) (hv : PReads w v (toksK nt k)) :
    Calls Tryz.prog 25 #[.pointer (some ⟨gu, 0, none⟩), v] W fun r w' => r = .returned (.int .i64 0) ∧ AlR w w' gu mb gp mi ln (labs ++ labK k its.length) (its ++ itK nt (ln, k)) false := by
  cases k with
  | br =>
    rw [show labs ++ labK .br its.length = labs by simp [labK]]
    cases nt
    · exact read_br w W gu mb gp mi v ln labs its 17 ⟨#[98, 116]⟩ (by rw [ByteArray.toList_eq]; decide) find_bt (.inl rfl) (by simp [labelled, headT, tkThere]) hA hge.1 h (by omega) hv
    · exact read_br w W gu mb gp mi v ln labs its 18 ⟨#[98, 102]⟩ (by rw [ByteArray.toList_eq]; decide) find_bf (.inr rfl) (by simp [labelled, headT, tkThere]) hA hge.1 h (by omega) hv
  | word =>
    rw [show labs ++ labK .word its.length = labs by simp [labK]]
    exact read_word w W gu mb gp mi v ln labs its 29 hA hge.1 h (by omega) hits hv
  | nop =>
    rw [show labs ++ labK .nop its.length = labs by simp [labK]]
    exact read_nop w W gu mb gp mi v ln labs its hA hge.1 h (by omega) hv
  | rts =>
    obtain rfl := hlab 0 (by simp [labK])
    exact read_rts w W gu mb gp mi v ln its hA hge hlt hne h (by omega) hv
end

end Go.Proofs.YtagkmgdjkailkaaGreatDoor

namespace Go.Proofs.YtagkmgdjkailkaaGreatDoor
open Go.RowKit

/-- An item of such lines. -/
def IOk (labs : List (List UInt8 × Nat)) (i : It) : Prop :=
  Laid1 i ∧ (1 ≤ i.align ∧ i.align ≤ 16) ∧ i.upTo = 1 ∧
  match i.gen with
  | .fill => False
  | .num nm add => (i.size = 1 ∨ i.size = 2 ∨ i.size = 4) ∧ nm.length ≤ maxLen ∧ -100000000000 ≤ add ∧ add ≤ 100000000000
  | .plain _ _ _ _ => True
  | .lead op _ _ _ q => (i.size = 2 ∨ i.size = 6) ∧ (op = 17 ∨ op = 18) ∧ ∃ nm add k, q = .val nm add ∧ nm ≠ [] ∧ nm.length ≤ maxLen ∧ -100000000000 ≤ add ∧ add ≤ 100000000000 ∧ labelAt nm labs = some k
theorem IOk.good {labs : List (List UInt8 × Nat)} {i : It} (h : IOk labs i) : Laid1 i ∧ GoodB labs i := by
  refine ⟨h.1, ?_⟩
  have h4 := h.2.2.2
  unfold GoodB
  cases hg : i.gen with
  | fill => trivial
  | num nm m => trivial
  | plain op a b c => trivial
  | lead op a b c q =>
    rw [hg] at h4
    exact fun _ => ⟨h4.1, h4.2.2⟩
theorem IOk.ends {labs : List (List UInt8 × Nat)} {i : It} (h : IOk labs i) : FarEnd i := by
  refine ⟨h.1, h.2.1, h.2.2.1, ?_⟩
  have h4 := h.2.2.2
  cases hg : i.gen with
  | fill => rw [hg] at h4; exact h4
  | num nm m => rw [hg] at h4; exact h4
  | plain op a b c => trivial
  | lead op a b c q =>
    rw [hg] at h4
    obtain ⟨h1, h2, nm, add, k, e, _, h3, h5, h6, _⟩ := h4
    refine ⟨?_, nm, add, e, h3, h5, h6⟩
    rcases h1 with h1 | h1
    · exact .inl h1
    · exact .inr ⟨h1, h2⟩
theorem IOk.long {labs : List (List UInt8 × Nat)} (u : Un) (ps : List Int) : ∀ (l : List It) (k : Nat), (∀ i, i ∈ l → IOk labs i) → ∀ i, i ∈ (longU u ps k l).1 → IOk labs i
  | [], k, h, i, hi => by simp [longU] at hi
  | x :: l, k, h, i, hi => by
    rw [longU_cons, List.mem_cons] at hi
    rcases hi with rfl | hi
    · have hx := h x (by simp)
      unfold long1
      split
      · next hm =>
        obtain ⟨h1, h2, h3, h4⟩ := hx
        refine ⟨⟨by show (0 : Int) ≤ 6; decide, by show (6 : Int) ≤ 6; decide, h1.2.2⟩, h2, h3, ?_⟩
        unfold mustU farU at hm
        cases hg : x.gen with
        | fill => rw [hg] at hm; simp at hm
        | num nm m => rw [hg] at hm; simp at hm
        | plain op a b c => trivial
        | lead op a b c q =>
          rw [hg] at h4
          exact ⟨.inr rfl, h4.2⟩
      · exact hx
    · exact IOk.long u ps l (k + 1) (fun j hj => h j (by simp [hj])) i hi

theorem last_eq (its : List It) : (tellU 0 its).getLastD 0 = (tellU 0 its).getD its.length 0 := lastD_of (k := its.length) (tell_len _ _) rfl

theorem unit_parts {labs : List (List UInt8 × Nat)} {its : List It} {firsts : Nat → Nat} {ob : Ob} (h : unitU 2 ⟨labs, its, firsts⟩ = some (.ok ob)) :
    (tellU 0 its).getD its.length 0 ≤ 8000 ∧ (((longU ⟨labs, its, firsts⟩ (tellU 0 its) 0 its).2 = false ∧ writeU ⟨labs, its, firsts⟩ (tellU 0 its) 0 [] [] its = .ok (ob.code, ob.rels) ∧ ob.syms = symsU ⟨labs, its, firsts⟩ (tellU 0 its)) ∨
      ∃ its2, longU ⟨labs, its, firsts⟩ (tellU 0 its) 0 its = (its2, true) ∧ (tellU 0 its2).getD its2.length 0 ≤ 8000 ∧ (longU ⟨labs, its2, firsts⟩ (tellU 0 its2) 0 its2).2 = false ∧ writeU ⟨labs, its2, firsts⟩ (tellU 0 its2) 0 [] [] its2 = .ok (ob.code, ob.rels) ∧ ob.syms = symsU ⟨labs, its2, firsts⟩ (tellU 0 its2)) := by
  have fin : ∀ (v : Un) (ps : List Int), (match writeU v ps 0 [] [] v.items with | .error e => some (.error e) | .ok (code, rs) => some (.ok (⟨code, symsU v ps, rs⟩ : Ob)) : Option (Except (Int × Int) Ob)) = some (.ok ob) → writeU v ps 0 [] [] v.items = .ok (ob.code, ob.rels) ∧ ob.syms = symsU v ps := by
    intro v ps h
    split at h
    · exact absurd h (by simp)
    · next code rs hw =>
      injection h with h
      injection h with h
      subst h
      exact ⟨hw, rfl⟩
  unfold unitU layU at h
  simp only at h
  by_cases h1 : (8000 : Int) < (tellU 0 its).getLastD 0
  · rw [if_pos h1] at h; exact absurd h (by simp)
  · rw [if_neg h1] at h
    rw [last_eq] at h1
    refine ⟨by omega, ?_⟩
    obtain ⟨its2, b, hl⟩ : ∃ its2 b, longU ⟨labs, its, firsts⟩ (tellU 0 its) 0 its = (its2, b) := ⟨_, _, rfl⟩
    rw [hl] at h ⊢
    cases b
    · simp only [Bool.false_eq_true, if_false] at h
      exact .inl ⟨rfl, fin _ _ h⟩
    · simp only [if_true, layU] at h
      by_cases h2 : (8000 : Int) < (tellU 0 its2).getLastD 0
      · rw [if_pos h2] at h; exact absurd h (by simp)
      · rw [if_neg h2] at h
        rw [last_eq] at h2
        refine .inr ⟨its2, rfl, by omega, ?_⟩
        cases hb : (longU ⟨labs, its2, firsts⟩ (tellU 0 its2) 0 its2).2
        · rw [hb] at h
          simp only [Bool.false_eq_true, if_false] at h
          exact ⟨rfl, fin _ _ h⟩
        · rw [hb] at h
          simp at h

/-- All that is asked of items and labels at the end. -/
structure Fin (labs : List (List UInt8 × Nat)) (its : List It) (ob : Ob) : Prop where
  hx : ∀ i, i ∈ its → IOk labs i
  pos : 0 < its.length
  n : its.length ≤ 3000
  lbk : ∀ nm k, labelAt nm labs = some k → k ≤ its.length
  lbs : ∀ j (h : j < labs.length), labelAt labs[j].1 labs = some labs[j].2 ∧ labs[j].1.length ≤ maxLen
  ll : labs.length ≤ 100000
  un : unitU 2 ⟨labs, its, fun _ => 0⟩ = some (.ok ob)
  cl : ob.code.length ≤ 100000 ∧ ob.rels.length ≤ 100000

/-- Laid, and ready to be written. -/
def Rdy (w W' : World) (gu : Nat) (labs : List (List UInt8 × Nat)) (ob : Ob) : Prop :=
  ∃ w1 gp mb n nv pp ln its, Bx w w1 ∧ LY w1 W' gu gp mb n nv pp (.slice none 0 0) ln labs its ∧ PlR W' gp n (n + 1) (tellU 0 its) ∧ w1.ownsRow (gu + 1) 9 1 nv labs.length (nameC labs) ∧ (∀ i, i ∈ its → IOk labs i) ∧ n ≤ 3000 ∧ (∀ nm k, labelAt nm labs = some k → k ≤ n) ∧ writeU ⟨labs, its, fun _ => 0⟩ (tellU 0 its) 0 [] [] its = .ok (ob.code, ob.rels) ∧ ob.syms = symsU ⟨labs, its, fun _ => 0⟩ (tellU 0 its)

theorem lay_fin (w W : World) (gu mb gp mi : Nat) (ln : Int) (labs : List (List UInt8 × Nat)) (its : List It) (ob : Ob) (hA : AllLaid w) (hge : w.heap.size + 2 ≤ gu) (hn : AlR w W gu mb gp mi ln labs its false) (hfin : Fin labs its ob) :
    Calls Tryz.prog 27 #[.pointer (some ⟨gu, 0, none⟩)] W fun r w' => r = .returned (.int .i64 0) ∧ Rdy w w' gu labs ob := by
  have hsz := hA.isa.sz
  obtain ⟨nv, hu, hnv⟩ := hn.ur
  have hla := hA.isa.below hn.bx.bel hA.isa.sz
  have hgood : ∀ i, i ∈ its → Laid1 i ∧ GoodB labs i := fun i hi => (hfin.hx i hi).good
  obtain ⟨h1, h2⟩ := unit_parts hfin.un
  rcases h2 with ⟨hl, hw, hs⟩ | ⟨its2, hl, h3, h4, hw, hs⟩
  · refine (lay_one W gu mb nv _ _ none 0 0 ln labs (fun _ => 0) its hu hn.lb hla (by omega) hgood hfin.pos hfin.n hfin.lbk h1 hl).mono ?_
    rintro r W' ⟨rfl, gp', _, hy, hp⟩
    exact ⟨rfl, W, gp', mb, _, nv, _, ln, _, hn.bx, hy, hp, hnv, hfin.hx, hfin.n, hfin.lbk, hw, hs⟩
  · have hx2 : ∀ i, i ∈ its2 → IOk labs i := fun i hi => IOk.long ⟨labs, its, fun _ => 0⟩ (tellU 0 its) its 0 hfin.hx i (by rw [hl]; exact hi)
    have hlen2 : its2.length = its.length := by have := longU_len ⟨labs, its, fun _ => 0⟩ (tellU 0 its) its 0; rw [hl] at this; exact this
    rw [hlen2] at h3
    refine (lay_two W gu mb nv _ _ none 0 0 ln labs (fun _ => 0) its its2 hu hn.lb hla (by omega) hgood (fun i hi => (hx2 i hi).good) hfin.pos hfin.n hfin.lbk h1 hl h3 h4).mono ?_
    rintro r W' ⟨rfl, gp', _, hy, hp⟩
    exact ⟨rfl, W, gp', mb, _, nv, _, ln, _, hn.bx, hy, hp, hnv, hx2, hfin.n, hfin.lbk, hw, hs⟩

theorem write_fin (w W' : World) (gu : Nat) (labs : List (List UInt8 × Nat)) (its : List It) (ob : Ob) (hA : AllLaid w) (hge : w.heap.size + 2 ≤ gu) (hr : Rdy w W' gu labs ob) (hfin : Fin labs its ob) :
    Calls Tryz.prog 28 #[.pointer (some ⟨gu, 0, none⟩)] W' fun r w' => ∃ ca cl cc sa sl sc qa ql qc, r = .returned (.tuple #[.agg #[.slice ca cl cc, .slice sa sl sc, .slice qa ql qc], .agg #[.int .i64 0, .int .i64 0]]) ∧ ObjAt w' (.slice ca cl cc) (.slice sa sl sc) (.slice qa ql qc) ob ∧ Bx w w' := by
  have hsz := hA.isa.sz
  obtain ⟨w1, gp', mb', n, nv, pp, ln, its, hbx, hy, hp, hnv, hx, hn, hlk, hw, hs⟩ := hr
  have := write_far (firsts := fun _ => 0) hbx hge hy hp hnv (by omega) hn (fun i hi => (hx i hi).ends) hw hfin.cl hlk hfin.lbs hfin.ll
  refine this.mono ?_
  rintro r w' ⟨ca, cl, cc, sa, sl, sc, qa, ql, qc, rfl, ho, hb⟩
  rw [← hs] at ho
  exact ⟨ca, cl, cc, sa, sl, sc, qa, ql, qc, rfl, ho, hb⟩

theorem makes_far (w W1 : World) (gu mb gp mi : Nat) (nt : Bool) (ks : List (Int × LK)) (ob : Ob) (hA : AllLaid w) (h : Begun w W1 gu mb gp mi) (hone : ∀ k (hk : k < ks.length), ks[k].2 = .rts → labsK nt 0 (ks.take k) = []) (hfin : Fin (labsK nt 0 ks) (itsK nt ks) ob) : Makes w gu (ks.map fun a => (a.1, toksK nt a.2)) ob W1 := by
  have hge := h.ge
  have hsz := hA.isa.sz
  refine ⟨⟨fun k W => ∃ ln, AlR w W gu mb gp mi ln (labsK nt 0 (ks.take k)) (itsK nt (ks.take k)) false, fun W => ∃ ln, AlR w W gu mb gp mi ln (labsK nt 0 ks) (itsK nt ks) false, fun W' => Rdy w W' gu (labsK nt 0 ks) ob, ⟨0, h.al⟩, ?_, ?_, ?_, ?_, ?_⟩⟩
  · rintro k W ⟨ln, hn⟩
    obtain ⟨nv, hu, _⟩ := hn.ur
    obtain ⟨_, _, x1, _⟩ := hu.its
    exact ⟨hn.bx, _, x1, ln, rfl⟩
  · rintro k hk W v ⟨ln, hn⟩ hv
    have hk' : k < ks.length := by simpa using hk
    simp only [List.getElem_map] at hv ⊢
    have hlen : (itsK nt (ks.take k)).length ≤ 90000 := by
      have e : itsK nt ks = itsK nt (ks.take k) ++ itsK nt (ks.drop k) := by
        unfold itsK
        rw [← List.flatMap_append, List.take_append_drop]
      have := hfin.n
      rw [e, List.length_append] at this
      omega
    refine (read_k w _ gu mb gp mi v nt ks[k].1 ks[k].2 (labsK nt 0 (ks.take k)) (itsK nt (ks.take k)) hA hge h.lt h.ne (hn.line hge.1 _ _) hlen ?_ hv).mono ?_
    · intro c hc
      refine hone k hk' ?_
      generalize ks[k].2 = x at hc
      cases x <;> simp [labK] at hc ⊢
    · rintro r w' ⟨rfl, hr⟩
      refine ⟨rfl, ks[k].1, ?_⟩
      rw [List.take_succ_eq_append_getElem hk', labsK_snoc, itsK_snoc, Nat.zero_add]
      exact hr
  · rintro W ⟨ln, hn⟩
    rw [List.length_map, List.take_length] at hn
    have hp := hn.po
    simp only [Bool.false_eq_true, if_false] at hp
    obtain ⟨nv, hu, _⟩ := hn.ur
    obtain ⟨_, _, x1, _⟩ := hu.its
    refine (endPool_none gu gp none 0 W (blk_cell x1 rfl) (blk_cell hp.1 rfl)).mono ?_
    rintro r w' ⟨rfl, rfl⟩
    exact ⟨rfl, ln, hn⟩
  · rintro W ⟨ln, hn⟩
    exact lay_fin w W gu mb gp mi ln (labsK nt 0 ks) (itsK nt ks) ob hA hge.1 hn hfin
  · rintro W' hr
    exact write_fin w W' gu (labsK nt 0 ks) (itsK nt ks) ob hA hge.1 hr hfin

end Go.Proofs.YtagkmgdjkailkaaGreatDoor

namespace Go.Proofs.YtagkmgdjkailkaaGreatDoor
open Go.RowKit

theorem unit_more {u : Un} {ob : Ob} (h : unitU 1 u = some (.ok ob)) : unitU 2 u = some (.ok ob) := by
  unfold unitU layU at h ⊢
  simp only at h ⊢
  by_cases h1 : (8000 : Int) < (tellU 0 u.items).getLastD 0
  · rw [if_pos h1] at h; exact absurd h (by simp)
  · rw [if_neg h1] at h ⊢
    by_cases h2 : (longU u (tellU 0 u.items) 0 u.items).2 = true
    · rw [if_pos h2] at h; simp [layU] at h
    · rw [if_neg h2] at h ⊢
      exact h

def nopB : List UInt8 := [0, 9]
theorem enc_rts : encU 2 0 0 0 = .ok [0, 11] := by with_unfolding_all rfl
/-- What the branch leads over, with its bytes. -/
def overL (a b : Int) (q r : Nat) : List (It × List UInt8) := List.replicate (30 * q) (numI a 2 [] 9, half 9) ++ List.replicate r (plainI b 1 0 0 0, nopB)
def endL (a b : Int) : List (It × List UInt8) := [(plainI a 2 0 0 0, [0, 11]), (plainI b 1 0 0 0, nopB)]
theorem over_two (a b : Int) (q r : Nat) : ∀ x, x ∈ overL a b q r → Two x := by
  intro x hx
  rcases List.mem_append.1 hx with hx | hx
  · obtain rfl := (List.mem_replicate.1 hx).2
    exact two_num a 9
  · obtain rfl := (List.mem_replicate.1 hx).2
    exact two_plain enc_nop
theorem end_two (a b : Int) : ∀ x, x ∈ endL a b → Two x := by
  intro x hx
  simp only [endL, List.mem_cons, List.not_mem_nil, or_false] at hx
  rcases hx with rfl | rfl
  · exact two_plain enc_rts
  · exact two_plain enc_nop
theorem over_len (a b : Int) (q r : Nat) : (overL a b q r).length = 30 * q + r := by simp [overL]
theorem bytes_len {l : List (It × List UInt8)} (h : ∀ x, x ∈ l → x.2.length = 2) : (l.flatMap (·.2)).length = 2 * l.length := by
  induction l with
  | nil => rfl
  | cons x l ih =>
    rw [List.flatMap_cons, List.length_append, h x (by simp), ih (fun y hy => h y (by simp [hy])), List.length_cons]
    omega
theorem over_b2 (a b : Int) (q r : Nat) : ∀ x, x ∈ overL a b q r → x.2.length = 2 := by
  intro x hx
  rcases List.mem_append.1 hx with hx | hx
  · obtain rfl := (List.mem_replicate.1 hx).2; rfl
  · obtain rfl := (List.mem_replicate.1 hx).2; rfl
theorem end_b2 (a b : Int) : ∀ x, x ∈ endL a b → x.2.length = 2 := by
  intro x hx
  simp only [endL, List.mem_cons, List.not_mem_nil, or_false] at hx
  rcases hx with rfl | rfl <;> rfl

theorem words_flat (nt : Bool) (a : Int) : ∀ q, itsK nt (List.replicate q (a, .word)) = List.replicate (30 * q) (numI a 2 [] 9)
  | 0 => rfl
  | q + 1 => by
    have ih := words_flat nt a q
    unfold itsK at ih ⊢
    rw [List.replicate_succ, List.flatMap_cons, ih]
    show List.replicate 30 _ ++ _ = _
    rw [List.replicate_append_replicate]
    congr 1
    omega
theorem nops_flat (nt : Bool) (a : Int) (r : Nat) : itsK nt (List.replicate r (a, .nop)) = List.replicate r (plainI a 1 0 0 0) := by
  induction r with
  | zero => rfl
  | succ r ih =>
    unfold itsK at ih ⊢
    rw [List.replicate_succ, List.flatMap_cons, ih, List.replicate_succ]
    rfl
theorem itsK_app (nt : Bool) (a b : List (Int × LK)) : itsK nt (a ++ b) = itsK nt a ++ itsK nt b := by simp [itsK]
theorem its_fwd (nt : Bool) (q r : Nat) : itsK nt (ksF false q r) = ledI 1 (opB nt) 2 nmThere :: fsts (overL 3 6 q r ++ endL 8 9) := by
  simp only [ksF, Bool.false_eq_true, if_false]
  rw [itsK_app, itsK_app, itsK_app, words_flat, nops_flat]
  simp [fsts, overL, endL, itsK, itK]
theorem its_bwd (nt : Bool) (q r : Nat) : itsK nt (ksF true q r) = fsts (endL 1 2 ++ overL 4 7 q r) ++ [ledI 9 (opB nt) 2 nmThere] := by
  simp only [ksF, if_true]
  rw [itsK_app, itsK_app, itsK_app, words_flat, nops_flat]
  simp [fsts, overL, endL, itsK, itK]

theorem labsK_app (nt : Bool) : ∀ (a b : List (Int × LK)) (c : Nat), labsK nt c (a ++ b) = labsK nt c a ++ labsK nt (c + (itsK nt a).length) b
  | [], b, c => by simp [labsK, itsK]
  | x :: a, b, c => by
    rw [List.cons_append, labsK_cons, labsK_app nt a b, labsK_cons, List.append_assoc]
    congr 3
    simp only [itsK, List.flatMap_cons, List.length_append]
    rw [Nat.add_assoc]
theorem labs_rep (nt : Bool) (a : Int) (k : LK) (hk : ∀ c, labK k c = []) : ∀ (q c : Nat), labsK nt c (List.replicate q (a, k)) = []
  | 0, c => rfl
  | q + 1, c => by rw [List.replicate_succ, labsK_cons, hk, labs_rep nt a k hk q]; rfl
theorem labs_fwd (nt : Bool) (q r : Nat) : labsK nt 0 (ksF false q r) = [(nmThere, 1 + (30 * q + r))] := by
  simp only [ksF, Bool.false_eq_true, if_false]
  rw [labsK_app, labsK_app, labsK_app, labs_rep nt 3 .word (fun _ => rfl), labs_rep nt 6 .nop (fun _ => rfl), words_flat, nops_flat]
  simp [labsK, itsK, itK]
  omega
theorem labs_bwd (nt : Bool) (q r : Nat) : labsK nt 0 (ksF true q r) = [(nmThere, 0)] := by
  simp only [ksF, if_true]
  rw [labsK_app, labsK_app, labsK_app, labs_rep nt 4 .word (fun _ => rfl), labs_rep nt 7 .nop (fun _ => rfl)]
  simp [labsK]

/-- What the law asks of the code and of the label's place. -/
def FarSays (back nt : Bool) (n : Nat) (code : List UInt8) (tp : Int) : Prop :=
  if n ≤ (if back then 124 else 128) then ∃ a d b, code = a ++ (half (Isa.encI (opB nt) 0 0 d) ++ b) ∧ a.length = (if back then 4 + 2 * n else 0) ∧ code.length = 6 + 2 * n ∧ tp = (if back then 4 + 2 * n else 0 : Nat) + 4 + 2 * d ∧ -128 ≤ d ∧ d ≤ 127
  else ∃ a e b, code = a ++ (farB (opB nt) e ++ b) ∧ a.length = (if back then 4 + 2 * n else 0) ∧ code.length = 10 + 2 * n ∧ tp = (if back then 4 + 2 * n else 0 : Nat) + 6 + 2 * e ∧ -2048 ≤ e ∧ e ≤ 2047

theorem opB_ok (nt : Bool) : opB nt = 17 ∨ opB nt = 18 := by cases nt <;> simp [opB]

theorem iok_two {labs : List (List UInt8 × Nat)} (a b c d : Int) (q r : Nat) : ∀ i, i ∈ fsts (overL a b q r) ∨ i ∈ fsts (endL c d) → IOk labs i := by
  have hnum : ∀ a : Int, IOk labs (numI a 2 [] 9) := fun a => ⟨⟨by show (0 : Int) ≤ 2; decide, by show (2 : Int) ≤ 6; decide, by show (1 : Int) ≤ 1; decide, by show (1 : Int) ≤ 16; decide⟩, ⟨by show (1 : Int) ≤ 2; decide, by show (2 : Int) ≤ 16; decide⟩, rfl, .inr (.inl rfl), by show 0 ≤ maxLen; omega, by decide, by decide⟩
  have hpl : ∀ a op : Int, IOk labs (plainI a op 0 0 0) := fun a op => ⟨⟨by show (0 : Int) ≤ 2; decide, by show (2 : Int) ≤ 6; decide, by show (1 : Int) ≤ 1; decide, by show (1 : Int) ≤ 16; decide⟩, ⟨by show (1 : Int) ≤ 2; decide, by show (2 : Int) ≤ 16; decide⟩, rfl, trivial⟩
  rintro i (hi | hi)
  · obtain ⟨x, hx, rfl⟩ := List.mem_map.1 hi
    rcases List.mem_append.1 hx with hx | hx
    · obtain rfl := (List.mem_replicate.1 hx).2
      exact hnum a
    · obtain rfl := (List.mem_replicate.1 hx).2
      exact hpl b 1
  · obtain ⟨x, hx, rfl⟩ := List.mem_map.1 hi
    simp only [endL, List.mem_cons, List.not_mem_nil, or_false] at hx
    rcases hx with rfl | rfl
    · exact hpl c 2
    · exact hpl d 1
theorem iok_led (nt : Bool) (ln : Int) (k : Nat) : IOk [(nmThere, k)] (ledI ln (opB nt) 2 nmThere) :=
  ⟨⟨by show (0 : Int) ≤ 2; decide, by show (2 : Int) ≤ 6; decide, by show (1 : Int) ≤ 1; decide, by show (1 : Int) ≤ 16; decide⟩, ⟨by show (1 : Int) ≤ 2; decide, by show (2 : Int) ≤ 16; decide⟩, rfl, .inl rfl, opB_ok nt, nmThere, 0, k, rfl, by decide, by decide, by decide, by decide, by simp [labelAt]⟩

theorem fin_of {its : List It} {k : Nat} {ob : Ob} (hx : ∀ i, i ∈ its → IOk [(nmThere, k)] i) (pos : 0 < its.length) (hn : its.length ≤ 3000) (hk : k ≤ its.length) (un : unitU 2 ⟨[(nmThere, k)], its, fun _ => 0⟩ = some (.ok ob)) (c1 : ob.code.length ≤ 100000) (c2 : ob.rels = []) : Fin [(nmThere, k)] its ob := by
  refine ⟨hx, pos, hn, ?_, ?_, by simp, un, c1, by rw [c2]; simp⟩
  · intro nm j hj
    unfold labelAt at hj
    split at hj
    · injection hj with hj; omega
    · simp [labelAt] at hj
  · intro j hj
    obtain rfl : j = 0 := by simpa using hj
    exact ⟨by simp [labelAt], by show nmThere.length ≤ maxLen; decide⟩

theorem half_len (n : Int) : (half n).length = 2 := rfl
theorem farB_len (op e : Int) : (farB op e).length = 6 := rfl

theorem far_unit (back nt : Bool) (q r : Nat) (hn : 30 * q + r ≤ 1900) : ∃ code tp, Fin (labsK nt 0 (ksF back q r)) (itsK nt (ksF back q r)) ⟨code, [⟨nmThere, tp⟩], []⟩ ∧ FarSays back nt (30 * q + r) code tp := by
  have hnm : nmThere ≠ [] := by decide
  have hop := opB_ok nt
  have htt : ∀ a b c d x, x ∈ overL a b q r ++ endL c d → Two x := fun a b c d x hx => (List.mem_append.1 hx).elim (over_two a b q r x) (end_two c d x)
  have htt2 : ∀ a b c d x, x ∈ endL a b ++ overL c d q r → Two x := fun a b c d x hx => (List.mem_append.1 hx).elim (end_two a b x) (over_two c d q r x)
  cases back
  · rw [its_fwd, labs_fwd]
    have hl : (overL 3 6 q r ++ endL 8 9).length = 30 * q + r + 2 := by rw [List.length_append, over_len]; rfl
    have hb : ((overL 3 6 q r ++ endL 8 9).flatMap (·.2)).length = 2 * (30 * q + r + 2) := by
      rw [bytes_len, hl]
      intro x hx
      exact (List.mem_append.1 hx).elim (over_b2 3 6 q r x) (end_b2 8 9 x)
    have hx : ∀ i, i ∈ ledI 1 (opB nt) 2 nmThere :: fsts (overL 3 6 q r ++ endL 8 9) → IOk [(nmThere, 1 + (30 * q + r))] i := by
      intro i hi
      rcases List.mem_cons.1 hi with rfl | hi
      · exact iok_led nt 1 _
      · rw [fsts, List.map_append] at hi
        exact iok_two 3 6 8 9 q r i (List.mem_append.1 hi)
    have hlen : (ledI 1 (opB nt) 2 nmThere :: fsts (overL 3 6 q r ++ endL 8 9)).length = 30 * q + r + 3 := by rw [List.length_cons, fsts_len, hl]
    by_cases h : 30 * q + r ≤ 128
    · refine ⟨_, _, fin_of hx (by omega) (by omega) (by omega) (unit_more (fwd_near hnm hop 1 _ (htt 3 6 8 9) (30 * q + r) (by omega) (by omega) h)) ?_ rfl, ?_⟩
      · show List.length (_ ++ _) ≤ 100000
        rw [List.length_append, hb, shortB, half_len]
        omega
      · unfold FarSays
        simp only [Bool.false_eq_true, if_false]
        rw [if_pos h]
        refine ⟨[], ((30 * q + r : Nat) : Int) - 1, _, rfl, rfl, ?_, by omega, by omega, by omega⟩
        rw [List.length_append, hb, shortB, half_len]
        omega
    · refine ⟨_, _, fin_of hx (by omega) (by omega) (by omega) (fwd_far hnm hop 1 _ (htt 3 6 8 9) (30 * q + r) (by omega) (by omega) (by omega) (by omega)) ?_ rfl, ?_⟩
      · show List.length (_ ++ _) ≤ 100000
        rw [List.length_append, hb, farB_len]
        omega
      · unfold FarSays
        simp only [Bool.false_eq_true, if_false]
        rw [if_neg h]
        refine ⟨[], ((30 * q + r : Nat) : Int), _, rfl, rfl, ?_, by omega, by omega, by omega⟩
        rw [List.length_append, hb, farB_len]
        omega
  · rw [its_bwd, labs_bwd]
    have hl : (endL 1 2 ++ overL 4 7 q r).length = 30 * q + r + 2 := by rw [List.length_append, over_len]; simp [endL]; omega
    have hb : ((endL 1 2 ++ overL 4 7 q r).flatMap (·.2)).length = 2 * (30 * q + r + 2) := by
      rw [bytes_len, hl]
      intro x hx
      exact (List.mem_append.1 hx).elim (end_b2 1 2 x) (over_b2 4 7 q r x)
    have hx : ∀ i, i ∈ fsts (endL 1 2 ++ overL 4 7 q r) ++ [ledI 9 (opB nt) 2 nmThere] → IOk [(nmThere, 0)] i := by
      intro i hi
      rcases List.mem_append.1 hi with hi | hi
      · rw [fsts, List.map_append] at hi
        exact iok_two 4 7 1 2 q r i (List.mem_append.1 hi).symm
      · obtain rfl := List.mem_singleton.1 hi
        exact iok_led nt 9 _
    have hlen : (fsts (endL 1 2 ++ overL 4 7 q r) ++ [ledI 9 (opB nt) 2 nmThere]).length = 30 * q + r + 3 := by rw [List.length_append, fsts_len, hl]; rfl
    by_cases h : 30 * q + r ≤ 124
    · refine ⟨_, _, fin_of hx (by omega) (by omega) (by omega) (unit_more (bwd_near hnm hop 9 _ (htt2 1 2 4 7) (by omega))) ?_ rfl, ?_⟩
      · show List.length (_ ++ _) ≤ 100000
        rw [List.length_append, hb, shortB, half_len]
        omega
      · unfold FarSays
        simp only [if_true]
        rw [if_pos h]
        refine ⟨_, -(((endL 1 2 ++ overL 4 7 q r).length : Int) + 2), [], by rw [List.append_nil]; rfl, by rw [hb]; omega, ?_, by rw [hl]; omega, by rw [hl]; omega, by rw [hl]; omega⟩
        rw [List.length_append, hb, shortB, half_len]
        omega
    · refine ⟨_, _, fin_of hx (by omega) (by omega) (by omega) (bwd_far hnm hop 9 _ (htt2 1 2 4 7) (by omega) (by omega)) ?_ rfl, ?_⟩
      · show List.length (_ ++ _) ≤ 100000
        rw [List.length_append, hb, farB_len]
        omega
      · unfold FarSays
        simp only [if_true]
        rw [if_neg h]
        refine ⟨_, -(((endL 1 2 ++ overL 4 7 q r).length : Int) + 3), [], by rw [List.append_nil], by rw [hb]; omega, ?_, by rw [hl]; omega, by rw [hl]; omega, by rw [hl]; omega⟩
        rw [List.length_append, hb, farB_len]
        omega

end Go.Proofs.YtagkmgdjkailkaaGreatDoor

namespace Go.Proofs.YtagkmgdjkailkaaGreatDoor
open Go.RowKit

theorem one_rts (nt : Bool) (ks : List (Int × LK)) (x : List UInt8 × Nat) (h : labsK nt 0 ks = [x]) : ∀ k (hk : k < ks.length), ks[k].2 = .rts → labsK nt 0 (ks.take k) = [] := by
  intro k hk e
  have h1 := labsK_app nt (ks.take (k + 1)) (ks.drop (k + 1)) 0
  rw [List.take_append_drop, h, List.take_succ_eq_append_getElem hk, labsK_snoc, e] at h1
  have h2 := congrArg List.length h1
  simp only [List.length_append, labK, List.length_cons, List.length_nil] at h2
  exact List.eq_nil_of_length_eq_zero (by omega)

theorem pl_len (back : Bool) (q r : Nat) : (idxOf 0 (plF back q r)).length = q + r + 3 := by
  cases back <;> simp [plF, idxOf] <;> omega
theorem pl_look (back : Bool) (q r : Nat) : lkOf (plF back q r) = q + r + 5 := by
  cases back <;> simp [plF, lkOf] <;> omega
theorem farLn_len (back nt : Bool) (q r : Nat) : (farLn back nt q r).length = 9 := by cases back <;> rfl
theorem farLn_toks (back nt : Bool) (q r : Nat) : ∀ x, x ∈ farLn back nt q r → x.toks.length ≤ 100000 := by
  intro x hx
  have key : ∀ (l : List (List UInt8 × List Sc.Tok)) (k : Nat), (∀ a, a ∈ l → a.2.length ≤ 100000) → ∀ x, x ∈ numLn k (l.map (·.2)) → x.toks.length ≤ 100000 := by
    intro l
    induction l with
    | nil => intro k _ x hx; simp [numLn] at hx
    | cons a l ih =>
      intro k h x hx
      simp only [List.map_cons, numLn, List.mem_cons] at hx
      rcases hx with rfl | hx
      · exact h a (by simp)
      · exact ih (k + 1) (fun b hb => h b (by simp [hb])) x hx
  refine key (farL back nt q r) 1 ?_ x hx
  intro a ha
  unfold farL at ha
  cases back
  · simp only [Bool.false_eq_true, if_false, List.mem_cons, List.not_mem_nil, or_false] at ha
    rcases ha with rfl | rfl | rfl | rfl | rfl | rfl | rfl | rfl | rfl <;> simp [brT, reptT, wordT, endrT, nopT, rtsT]
  · simp only [if_true, List.mem_cons, List.not_mem_nil, or_false] at ha
    rcases ha with rfl | rfl | rfl | rfl | rfl | rfl | rfl | rfl | rfl <;> simp [brT, reptT, wordT, endrT, nopT, rtsT]

theorem unit_far (v : Value) (back nt : Bool) (q r : Nat) (w : World) (hA : AllLaid w) (hn : 30 * q + r ≤ 1900) (hr : r < 30) (hv : Sc.BReads w v (farS back nt q r)) :
    ∃ code tp, FarSays back nt (30 * q + r) code tp ∧ Calls Tryz.prog 7 #[v] w fun e w' => (∃ ca cl cc sa sl sc qa ql qc, e = .returned (.tuple #[.agg #[.slice ca cl cc, .slice sa sl sc, .slice qa ql qc], .agg #[.int .i64 0, .int .i64 0]]) ∧ ObjAt w' (.slice ca cl cc) (.slice sa sl sc) (.slice qa ql qc) ⟨code, [⟨nmThere, tp⟩], []⟩) ∧ Below w.heap.size w w' := by
  obtain ⟨code, tp, hf, hs⟩ := far_unit back nt q r hn
  have hq : q ≤ 63 := by omega
  refine ⟨code, tp, hs, ?_⟩
  refine unit_rep v (farS back nt q r) (farLn back nt q r) (plF back q r) _ w hv (far_src back nt q r (by omega) (by omega)) (by rw [farLn_len]; omega) (pl_ok back nt q r (by omega) (by omega)) (by rw [pl_len]; omega) (by rw [pl_look]; omega) (farLn_toks back nt q r) hA.ex hA.gl ?_
  intro u W hb hl
  rw [pl_lines] at hl
  have hAW : AllLaid W := ⟨hA.isa.below hb hA.isa.sz, hA.frm.below hb hA.frm.sz, KL.below hA.ex hb, hA.gl.below hb hA.gl.sz⟩
  have hlen : (ksF back q r).length ≤ 1000 := by cases back <;> simp [ksF] <;> omega
  have hone : ∀ k (hk : k < (ksF back q r).length), (ksF back q r)[k].2 = .rts → labsK nt 0 ((ksF back q r).take k) = [] := by
    cases back
    · exact one_rts nt _ _ (labs_fwd nt q r)
    · exact one_rts nt _ _ (labs_bwd nt q r)
  exact build_gen u _ _ W hl (by simpa using hlen) (fun gu mb gp mi W1 h => makes_far W W1 gu mb gp mi nt (ksF back q r) _ hAW h hone hf)

end Go.Proofs.YtagkmgdjkailkaaGreatDoor
