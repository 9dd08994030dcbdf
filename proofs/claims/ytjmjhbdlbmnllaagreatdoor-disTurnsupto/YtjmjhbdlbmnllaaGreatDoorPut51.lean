/- asm: a line that asks for a value of the pool; .pool; a label alone; .long. asm: .pool; a label alone; .long. asm: all written, where branches are short and a pool is laid. asm: lines as dis writes them, as data; each of them read (DisTurns). What asm makes of dis' lines: the mathematics (DisTurns). What asm writes of dis' lines (DisTurns). -/
import Derived.Test.YtjmjhbdlbmnllaaGreatDoorPut50
import Derived.Test.YtjmjhbdlbmnllaaGreatDoorPut48
namespace Go.Proofs.YtjmjhbdlbmnllaaGreatDoor
open Go.RowKit Go.Maps Go.MapKept

section
variable (w W : World) (gu mb gp mi : Nat) (v : Value) (ln : Int) (labs : List (List UInt8 × Nat)) (its : List It) (old : Option (Nat × Nat))

end

end Go.Proofs.YtjmjhbdlbmnllaaGreatDoor

namespace Go.Proofs.YtjmjhbdlbmnllaaGreatDoor
open Go.RowKit Go.Maps Go.MapKept

/-- A line of labels alone. -/
theorem read_labels (gu : Nat) (v : Value) (w0 w : World) (PL : World → Prop)
    (hlab : Calls Tryz.prog 52 #[.pointer (some ⟨gu, 0, none⟩), v] w fun r w1 => ∃ v', r = .returned (.tuple #[v', .int .i64 0]) ∧ PReads w0 v' [] ∧ PL w1) (hv : ∃ ad l c, v = .slice ad l c) :
    Calls Tryz.prog 34 #[.pointer (some ⟨gu, 0, none⟩), v] w fun r w' => r = .returned (.int .i64 0) ∧ PL w' := by
  have HLB := Lib.hid hlab
  obtain ⟨ad, vl, vc, rfl⟩ := hv
  clear hlab
  go_enter Tryz.func34, Tryz.ntmps34
  go_wp2_with fail
  refine HLB.out.mono ?_
  rintro e w1 ⟨v', rfl, hp, hl⟩
  obtain ⟨a, c, rfl, _⟩ := hp
  simp only [List.length_nil] at *
  clear HLB
  go_wp2_with fail
  go_ret
  exact ⟨rfl, hl⟩

section
variable (w W : World) (gu mb gp mi : Nat) (v : Value) (ln : Int) (labs : List (List UInt8 × Nat)) (its : List It)

theorem read_lab (nm : List UInt8) (q : Option (List UInt8 × Int)) (old : Option (Nat × Nat)) (hlo : nm.length ≤ maxLen ∧ regU 1 nm < 0 ∧ Xp.nameR nm = true) (hA : AllLaid w) (hge : w.heap.size + 2 ≤ gu ∧ w.heap.size + 2 ≤ mb) (hne : mi ≠ mb) (h : AlQ w W gu mb gp mi ln labs its q old) (hits : its.length ≤ 100000) (hll : labs.length ≤ 100000) (hfree : labelAt nm labs = none) (hv : PReads w v [wd nm, sg 58]) :
    Calls Tryz.prog 34 #[.pointer (some ⟨gu, 0, none⟩), v] W fun r w' => r = .returned (.int .i64 0) ∧ AlQ w w' gu mb gp mi ln (labs ++ [(nm, its.length)]) its q old := by
  refine read_labels gu v w W _ ?_ (by obtain ⟨a, b, e, _⟩ := hv; exact ⟨_, _, _, e⟩)
  exact labels_lk w W gu mb gp mi v ln labs its q old ⟨some nm, iNop⟩ [] rfl (fun n e => by injection e with e; subst e; exact hlo) hA hge hne h hits hll (fun n e => by injection e with e; subst e; exact hfree) hv
end

end Go.Proofs.YtjmjhbdlbmnllaaGreatDoor

namespace Go.Proofs.YtjmjhbdlbmnllaaGreatDoor
open Go.RowKit Go.Maps Go.MapKept

/-- What is asked of an item: short ones alone. -/
def EndK (W : World) (firsts : Nat → Nat) (n : Nat) (i : It) : Prop :=
  Laid1 i ∧ (1 ≤ i.align ∧ i.align ≤ 16) ∧ i.size ≤ 4 ∧
  match i.gen with
  | .fill => True
  | .num nm add => (i.size = 1 ∨ i.size = 2 ∨ i.size = 4) ∧ i.upTo = 1 ∧ nm.length ≤ maxLen ∧ -100000000000 ≤ add ∧ add ≤ 100000000000
  | .plain _ _ _ _ => True
  | .lead _ _ _ _ q => i.size = 2 ∧ i.upTo = 1 ∧ SlotOk W firsts n q

theorem write_mix {w0 w W' : World} {gu gp mb n : Nat} {nv pp : Value} {ln : Int} {labs : List (List UInt8 × Nat)} {firsts : Nat → Nat} {its : List It} {code : List UInt8} {rs : List Re} (hbx : Bx w0 w) (hge : w0.heap.size + 2 ≤ gu) (hy : LY w W' gu gp mb n nv pp (.slice none 0 0) ln labs its) (hpl : PlR W' gp n (n + 1) (tellU 0 its)) (hnv : w.ownsRow (gu + 1) 9 1 nv labs.length (nameC labs)) (hi : max 0 1 < gu) (hn : n ≤ 3000) (hok : ∀ i, i ∈ its → EndK w firsts n i)
    (hwr : writeU ⟨labs, its, firsts⟩ (tellU 0 its) 0 [] [] its = .ok (code, rs)) (hcl : code.length ≤ 100000 ∧ rs.length ≤ 100000) (lbk : ∀ nm k, labelAt nm labs = some k → k ≤ n) (lbs : ∀ j (h : j < labs.length), labelAt labs[j].1 labs = some labs[j].2 ∧ labs[j].1.length ≤ maxLen) (ll : labs.length ≤ 100000) :
    Calls Tryz.prog 37 #[.pointer (some ⟨gu, 0, none⟩)] W' fun r w' => ∃ ca cl cc sa sl sc qa ql qc, r = .returned (.tuple #[.agg #[.slice ca cl cc, .slice sa sl sc, .slice qa ql qc], .agg #[.int .i64 0, .int .i64 0]]) ∧ ObjAt w' (.slice ca cl cc) (.slice sa sl sc) (.slice qa ql qc) ⟨code, symsU ⟨labs, its, firsts⟩ (tellU 0 its), rs⟩ ∧ Bx w0 w' := by
  obtain rfl := hy.n
  obtain ⟨iv, l, u1, u2, u3, u4⟩ := hy.it
  have kp : ∀ {q : Nat} {c : Array Value} {t : TypeId}, w.heap[q]? = some (.cells c t (0, 0)) → t ≠ 90 → t ≠ 140 → W'.heap[q]? = some (.cells c t (0, 0)) := fun {q c t} hq h1 h2 => hy.km.2 _ _ hq (by intro c' f e; injection e with _ e3; exact h1 e3) (by intro c' f e; injection e with _ e3; exact h2 e3)
  have hnv' : W'.ownsRow (gu + 1) 9 1 nv labs.length (nameC labs) := by
    refine ⟨hnv.1, ?_⟩
    rcases hnv.2 with h5 | ⟨g, cap, cur, h5, h6, h7, h8⟩
    · exact .inl h5
    · exact .inr ⟨g, cap, cur, h5, h6, kp h7 (by decide) (by decide), h8⟩
  have hbd : ∀ k, 0 ≤ (tellU 0 its).getD k 0 ∧ (tellU 0 its).getD k 0 ≤ 900000 := fun k => by
    by_cases hk : k ≤ its.length
    · have := tell_bounds its 0 k (Int.le_refl _) (fun x hx => (hok x hx).1) hk
      omega
    · have : (tellU 0 its).getD k 0 = 0 := by
        rw [List.getD_eq_getElem?_getD, List.getElem?_eq_none (by rw [tell_len]; omega)]
        rfl
      omega
  let x : SU := ⟨gu, gp, mb, its.length, .slice none 0 0, nv, iv, pp, ln, labs, tellU 0 its, firsts⟩
  have hs : S0 x W' := ⟨hpl, hy.lb, hy.la, hi, by show its.length ≤ 100000; omega, fun k => ⟨(hbd k).1, Int.le_trans (hbd k).2 (by decide)⟩, lbk⟩
  have hll : l.length = its.length := by rw [← u3]; simp
  refine (write_any x (gu + 1) W' its l code rs hs u1 u2 u3 rfl (fun p hp => (hy.gen (u4 p hp)).shape.1) (fun i hi => (hok i hi).2.1) ?_ hwr hcl.1 hcl.2 hnv' lbs ll).mono ?_
  · intro k hk rs1 rs2 b hrs hb
    have hki : k < its.length := by omega
    have hlk : l[k].1 = its[k] := by subst u3; simp
    have hokk := hok its[k] (List.getElem_mem _)
    have hstep := tell_step its 0 k hki
    have hb0 := hbd k
    have hsz : (tellU 0 its).getD (k + 1) 0 - (tellU 0 its).getD k 0 = its[k].size + (its[k].upTo - ((tellU 0 its).getD k 0).tmod its[k].upTo).tmod its[k].upTo := by omega
    obtain ⟨g1, g2, g3, g4⟩ := hokk.1
    have hr2 : 0 ≤ (its[k].upTo - ((tellU 0 its).getD k 0).tmod its[k].upTo).tmod its[k].upTo ∧ (its[k].upTo - ((tellU 0 its).getD k 0).tmod its[k].upTo).tmod its[k].upTo < its[k].upTo := by
      have ha : 0 ≤ ((tellU 0 its).getD k 0).tmod its[k].upTo ∧ ((tellU 0 its).getD k 0).tmod its[k].upTo < its[k].upTo := ⟨Int.tmod_nonneg _ hb0.1, Int.tmod_lt_of_pos _ (by omega)⟩
      exact ⟨Int.tmod_nonneg _ (by omega), Int.tmod_lt_of_pos _ (by omega)⟩
    refine bytes_any x W' its l[k].1 l[k].2.1 l[k].2.2 _ _ rs1 rs2 b (hy.gen (u4 _ (List.getElem_mem (l := l) (n := k) hk))) ?_ hb0.1 (by show (tellU 0 its).getD k 0 ≤ 1000000; omega) hrs hb
    rw [hlk]
    unfold ItOk
    have hlast := hokk.2.2.2
    cases hg : its[k].gen with
    | fill =>
      show 0 ≤ (tellU 0 its).getD (k + 1) 0 - (tellU 0 its).getD k 0 ∧ (tellU 0 its).getD (k + 1) 0 - (tellU 0 its).getD k 0 ≤ 100000
      rw [hsz]
      constructor <;> omega
    | num nm add =>
      rw [hg] at hlast
      simp only at hlast ⊢
      exact ⟨hlast.1, hlast.2.2.1, by omega, by omega⟩
    | plain op n m imm => trivial
    | lead op n m imm q =>
      rw [hg] at hlast
      simp only at hlast ⊢
      obtain ⟨e1, e2, e3⟩ := hlast
      refine ⟨?_, ?_⟩
      · rw [e2] at hr2
        show (tellU 0 its).getD (k + 1) 0 - (tellU 0 its).getD k 0 ≠ 6
        rw [hsz, e1, e2]
        omega
      · cases q with
        | val nm add => exact e3
        | slot g i =>
          obtain ⟨o1, vv, mv, o2⟩ := e3
          exact ⟨o1, vv, mv, kp o2 (by decide) (by decide)⟩
  · rintro r w' ⟨ca, cl, cc, sa, sl, sc, qa, ql, qc, rfl, h1, h2, h3, h4⟩
    have hx0 := kp hbx.x0 (by decide) (by decide)
    have hx1 := kp hbx.x1 (by decide) (by decide)
    have h4' : Fr gu W'.heap.size W' w' := h4
    have hB' : Below w0.heap.size w0 W' := hbx.bel.trans (hy.bl.mono (by omega))
    refine ⟨ca, cl, cc, sa, sl, sc, qa, ql, qc, rfl, ⟨h1, h2, h3⟩, ⟨hB'.trans ((h4'.lowd (Nat.le_of_lt (blk_lt u1))).mono (by omega)), ?_, ?_⟩⟩
    · rw [h4'.block _ (blk_lt hx0) (by omega)]; exact hx0
    · rw [h4'.block _ (blk_lt hx1) (by omega)]; exact hx1

/-- All that is asked at the end of lines with a pool that is laid already. -/
structure FinQ (w W : World) (gu mb : Nat) (labs : List (List UInt8 × Nat)) (firsts : Nat → Nat) (its : List It) (ob : Ob) : Prop where
  good : ∀ i, i ∈ its → GoodB labs i
  ok : ∀ i, i ∈ its → EndK W firsts its.length i
  pos : 0 < its.length
  n : its.length ≤ 3000
  lbk : ∀ nm k, labelAt nm labs = some k → k ≤ its.length
  lbs : ∀ j (h : j < labs.length), labelAt labs[j].1 labs = some labs[j].2 ∧ labs[j].1.length ≤ maxLen
  ll : labs.length ≤ 100000
  last : (tellU 0 its).getD its.length 0 ≤ 8000
  short : (longU ⟨labs, its, firsts⟩ (tellU 0 its) 0 its).2 = false
  wr : writeU ⟨labs, its, firsts⟩ (tellU 0 its) 0 [] [] its = .ok (ob.code, ob.rels)
  sy : ob.syms = symsU ⟨labs, its, firsts⟩ (tellU 0 its)
  cl : ob.code.length ≤ 100000 ∧ ob.rels.length ≤ 100000

/-- Laid, and ready to be written. -/
def RdyQ (w W' : World) (gu : Nat) (ob : Ob) : Prop :=
  ∃ w1 gp mb n nv pp ln labs firsts its, Bx w w1 ∧ LY w1 W' gu gp mb n nv pp (.slice none 0 0) ln labs its ∧ PlR W' gp n (n + 1) (tellU 0 its) ∧ w1.ownsRow (gu + 1) 9 1 nv labs.length (nameC labs) ∧ FinQ w w1 gu mb labs firsts its ob

theorem lay_finQ (w W : World) (gu mb gp mi : Nat) (ln : Int) (labs : List (List UInt8 × Nat)) (firsts : Nat → Nat) (its : List It) (q : Option (List UInt8 × Int)) (old : Option (Nat × Nat)) (ob : Ob) (hA : AllLaid w) (hge : w.heap.size + 2 ≤ gu) (hn : AlQ w W gu mb gp mi ln labs its q old) (hf : FinQ w W gu mb labs firsts its ob) :
    Calls Tryz.prog 36 #[.pointer (some ⟨gu, 0, none⟩)] W fun r w' => r = .returned (.int .i64 0) ∧ RdyQ w w' gu ob := by
  have hsz := hA.isa.sz
  obtain ⟨nv, hu, hnv⟩ := hn.ur
  have hla := hA.isa.below hn.bx.bel hA.isa.sz
  refine (lay_one W gu mb nv _ _ none 0 0 ln labs firsts its hu hn.lb hla (by omega) (fun i hi => ⟨(hf.ok i hi).1, hf.good i hi⟩) hf.pos hf.n hf.lbk hf.last hf.short).mono ?_
  rintro r W' ⟨rfl, gp', _, hy, hp⟩
  exact ⟨rfl, W, gp', mb, _, nv, _, ln, labs, firsts, its, hn.bx, hy, hp, hnv, hf⟩
theorem write_finQ (w W' : World) (gu : Nat) (ob : Ob) (hA : AllLaid w) (hge : w.heap.size + 2 ≤ gu) (hr : RdyQ w W' gu ob) :
    Calls Tryz.prog 37 #[.pointer (some ⟨gu, 0, none⟩)] W' fun r w' => ∃ ca cl cc sa sl sc qa ql qc, r = .returned (.tuple #[.agg #[.slice ca cl cc, .slice sa sl sc, .slice qa ql qc], .agg #[.int .i64 0, .int .i64 0]]) ∧ ObjAt w' (.slice ca cl cc) (.slice sa sl sc) (.slice qa ql qc) ob ∧ Bx w w' := by
  have hsz := hA.isa.sz
  obtain ⟨w1, gp', mb', n, nv, pp, ln, labs, firsts, its, hbx, hy, hp, hnv, hf⟩ := hr
  have hnn := hy.n
  have := write_mix (firsts := firsts) hbx hge hy hp hnv (by omega) (by rw [← hnn]; exact hf.n) (fun i hi => by rw [← hnn]; exact hf.ok i hi) hf.wr hf.cl (by rw [← hnn]; exact hf.lbk) hf.lbs hf.ll
  refine this.mono ?_
  rintro r w' ⟨ca, cl, cc, sa, sl, sc, qa, ql, qc, rfl, ho, hb⟩
  rw [← hf.sy] at ho
  exact ⟨ca, cl, cc, sa, sl, sc, qa, ql, qc, rfl, ho, hb⟩

end Go.Proofs.YtjmjhbdlbmnllaaGreatDoor

namespace Go.Proofs.YtjmjhbdlbmnllaaGreatDoor
open Go.RowKit Go.Maps Go.MapKept

def byteN : List UInt8 := [46, 98, 121, 116, 101]
def wordN : List UInt8 := [46, 119, 111, 114, 100]
theorem statement_byte (gu B : Nat) (e nv lm pp pv rv : Value) (ln : Int) (its : List It) (ns : List Int) (oa : Option Addr) (oc : Nat) (w : World) (h : UR w B gu e ln nv lm pp pv rv its) (hn0 : 0 < ns.length) (hn : its.length + ns.length ≤ 100000)
    (hr : OpsR w oa (ns.map fun n => ⟨⟨#[112]⟩, 0, ⟨#[]⟩, n⟩)) (hfit : ∀ n, n ∈ ns → fitsU n 8 = true) :
    Calls Tryz.prog 56 #[.pointer (some ⟨gu, 0, none⟩), .string ⟨#[46, 98, 121, 116, 101]⟩, .slice oa ns.length oc] w fun r w' => r = .returned (.int .i64 0) ∧ UR w' B gu e ln nv lm pp pv rv (its ++ ns.map (numI ln 1 [])) ∧ Fr gu B w w' ∧ KeepM w w' := by
  have HN := Lib.hid (numbers_more gu B e nv lm pp pv rv ln its 1 ns oa oc w h (.inl rfl) hn0 hn hr hfit)
  clear h hr hfit
  go_enter Tryz.func56, Tryz.ntmps56
  go_wp2_with (go_at_call 100; refine HN.out.mono ?_; rintro e' w1 ⟨rfl, h1, h2, h3⟩)
  go_ret
  exact ⟨rfl, h1, h2, h3⟩

/-- .byte, or .word, with one number. -/
theorem read_dataQ (w W : World) (gu mb gp mi : Nat) (v : Value) (ln : Int) (labs : List (List UInt8 × Nat)) (its : List It) (size n : Int) (hs : size = 1 ∨ size = 2) (q : Option (List UInt8 × Int)) (old : Option (Nat × Nat)) (hA : AllLaid w) (hge : w.heap.size + 2 ≤ gu) (h : AlQ w W gu mb gp mi ln labs its q old) (hits : its.length ≤ 90000) (hn0 : 0 ≤ n) (hn1 : fitsU n (8 * size) = true) (hn2 : n ≤ 70000) (hv : PReads w v [wd (if size = 1 then byteN else wordN), tkNum n]) :
    Calls Tryz.prog 34 #[.pointer (some ⟨gu, 0, none⟩), v] W fun r w' => r = .returned (.int .i64 0) ∧ AlQ w w' gu mb gp mi ln labs (its ++ [numI ln size [] n]) q old := by
  have hw : n = wrap32 n := by unfold wrap32; omega
  refine read_gen gu v 0 ⟨(if size = 1 then byteN else wordN).toArray⟩ [tkNum n] ([n].map fun n => ⟨⟨#[112]⟩, 0, ⟨#[]⟩, n⟩) w W (fun X => AlQ w X gu mb gp mi ln labs its q old) _ ?_ (fun A B h1 h2 => h1.go h2) (fun X hX => hX.bx.bel) ?_ ?_ (by obtain ⟨a, b, e, _⟩ := hv; exact ⟨_, _, _, e⟩)
  · refine (labels_none gu v _ W (hv.below h.bx.bel (Nat.le_refl _)) rfl).mono ?_
    rintro r w' ⟨rfl, hb⟩
    exact ⟨v, rfl, hv, h.go hb⟩
  · intro X v2 hX hv2
    obtain ⟨nv, hu, _⟩ := hX.ur
    have hpc := pieces_one (tkNum n) rfl
    refine (operands_any gu v2 [tkNum n] ([n].map fun n => ⟨⟨#[112]⟩, 0, ⟨#[]⟩, n⟩) X (hv2.below hX.bx.bel (Nat.le_refl _)) (by simp) (by rw [hpc]; simp) ?_).mono ?_
    · intro i hi u X2 hb2 hu2
      have hu3 : PReads X2 u [tkNum n] := by simpa [hpc] using hu2
      have hB3 : Below w.heap.size w X2 := hX.bx.bel.trans (hb2.mono hX.bx.bel.size)
      have := operand_atom gu u (tkNum n) ⟨#[]⟩ n (.inl ⟨rfl, rfl, hw⟩) X2 (KL.below hA.ex hB3) (hA.gl.below hB3 hA.gl.sz) hu3 (hu.go hb2).cell0 (by show regU 2 _ < 0; unfold regU; rw [if_neg (by decide)]; decide)
      simpa [Opd.V] using this
    · rintro r w' ⟨⟨ov, rfl, hr⟩, hb⟩
      obtain ⟨oa, oc, hov⟩ := row_shape hr
      subst hov
      exact ⟨⟨oa, oc, rfl, OpsR.of_row hr⟩, hb⟩
  · intro X oa oc hX ho
    obtain ⟨nv, hu, _⟩ := hX.ur
    rw [List.length_map]
    have key : ∀ (r : Ending) (w' : World), (r = .returned (.int .i64 0) ∧ UR w' (gu + 1) gu (.slice none 0 0) ln nv (.map (some mb)) (.pointer (some ⟨gp, 0, none⟩)) (.slice none 0 0) (.slice none 0 0) (its ++ [numI ln size [] n]) ∧ Fr gu (gu + 1) X w' ∧ KeepM X w') → r = .returned (.int .i64 0) ∧ AlQ w w' gu mb gp mi ln labs (its ++ [numI ln size [] n]) q old := by
      rintro r w' ⟨rfl, hu', hf, hk⟩
      refine ⟨rfl, hX.keep hk hf hge (fun nv' hn => ?_)⟩
      obtain rfl := hn.same hu
      exact hu'
    rcases hs with rfl | rfl
    · exact (statement_byte gu (gu + 1) _ nv _ _ _ _ ln its [n] oa oc X hu (by simp) (by simp; omega) ho (by intro m hm; obtain rfl := List.mem_singleton.1 hm; exact hn1)).mono key
    · exact (statement_word gu (gu + 1) _ nv _ _ _ _ ln its [n] oa oc X hu (by simp) (by simp; omega) ho (by intro m hm; obtain rfl := List.mem_singleton.1 hm; exact hn1)).mono key

/-- A line of dis. -/
inductive Dl where
  | lab (p : Nat)
  | ins (k : Nat) (n m imm : Int) (p : Nat)
  | num (size n : Int)
def Dl.toks : Dl → List Tk
  | .lab p => [wd (plW p), sg 58]
  | .ins k n m imm p => (insD k n m imm p).toks
  | .num size n => [wd (if size = 1 then byteN else wordN), tkNum n]
def Dl.its (ln : Int) : Dl → List It
  | .lab _ => []
  | .ins k n m imm p => [(insD k n m imm p).it ln]
  | .num size n => [numI ln size [] n]
def Dl.labs (k : Nat) : Dl → List (List UInt8 × Nat)
  | .lab p => [(plW p, k)]
  | _ => []
def Dl.ok : Dl → Prop
  | .lab p => p ≤ 2000
  | .ins k n m imm p => (insD k n m imm p).Ok
  | .num size n => (size = 1 ∨ size = 2) ∧ 0 ≤ n ∧ n ≤ 70000 ∧ fitsU n (8 * size) = true
/-- Lines, numbered; what comes of them. -/
def numD : Nat → List Dl → List (Int × Dl)
  | _, [] => []
  | k, d :: r => ((k : Int), d) :: numD (k + 1) r
def itsD (l : List (Int × Dl)) : List It := l.flatMap fun a => a.2.its a.1
def labsD : Nat → List (Int × Dl) → List (List UInt8 × Nat)
  | _, [] => []
  | k, a :: r => a.2.labs k ++ labsD (k + (a.2.its a.1).length) r
theorem itsD_snoc (l : List (Int × Dl)) (a : Int × Dl) : itsD (l ++ [a]) = itsD l ++ a.2.its a.1 := by simp [itsD]
theorem labsD_snoc (a : Int × Dl) : ∀ (l : List (Int × Dl)) (k : Nat), labsD k (l ++ [a]) = labsD k l ++ a.2.labs (k + (itsD l).length)
  | [], k => by simp [labsD, itsD]
  | b :: l, k => by
    have ih := labsD_snoc a l (k + (b.2.its b.1).length)
    rw [List.cons_append, labsD, ih, labsD, List.append_assoc]
    have e : k + (b.2.its b.1).length + (itsD l).length = k + (itsD (b :: l)).length := by simp [itsD]; omega
    rw [e]
theorem its_len (ln : Int) (d : Dl) : (d.its ln).length ≤ 1 := by cases d <;> simp [Dl.its]
theorem itsD_len : ∀ l : List (Int × Dl), (itsD l).length ≤ l.length
  | [] => by simp [itsD]
  | a :: l => by
    have := itsD_len l
    have := its_len a.1 a.2
    simp only [itsD, List.flatMap_cons, List.length_append, List.length_cons] at *
    omega
theorem labsD_len : ∀ (l : List (Int × Dl)) (k : Nat), (labsD k l).length ≤ l.length
  | [], k => by simp [labsD]
  | a :: l, k => by
    have := labsD_len l (k + (a.2.its a.1).length)
    have h1 : (a.2.labs k).length ≤ 1 := by cases a.2 <;> simp [Dl.labs]
    simp only [labsD, List.length_append, List.length_cons]
    omega

theorem read_dl (w W : World) (gu mb gp mi : Nat) (v : Value) (ln : Int) (labs : List (List UInt8 × Nat)) (its : List It) (d : Dl) (hd : d.ok) (hA : AllLaid w) (hge : w.heap.size + 2 ≤ gu ∧ w.heap.size + 2 ≤ mb) (hne : mi ≠ mb) (h : AlQ w W gu mb gp mi ln labs its none none) (hits : its.length ≤ 90000) (hll : labs.length ≤ 100000) (hfree : ∀ p, d = .lab p → labelAt (plW p) labs = none) (hv : PReads w v d.toks) :
    Calls Tryz.prog 34 #[.pointer (some ⟨gu, 0, none⟩), v] W fun r w' => r = .returned (.int .i64 0) ∧ AlQ w w' gu mb gp mi ln (labs ++ d.labs its.length) (its ++ d.its ln) none none := by
  cases d with
  | lab p =>
    have gp' := plW_good p hd
    have := read_lab w W gu mb gp mi v ln labs its (plW p) none none ⟨by have := gp'.2.2.2; unfold maxLen; omega, gp'.2.2.1, gp'.2.1⟩ hA hge hne h (by omega) hll (hfree p rfl) hv
    refine this.mono ?_
    rintro r w' ⟨rfl, hr⟩
    refine ⟨rfl, ?_⟩
    simp only [Dl.labs, Dl.its, List.append_nil]
    exact hr
  | ins k n m imm p =>
    refine (read_lkQ w W gu mb gp mi v ln labs its none none ⟨none, insD k n m imm p⟩ ⟨hd, by simp⟩ hA hge hne h (by omega) hll (by simp) hv).mono ?_
    rintro r w' ⟨rfl, hr⟩
    exact ⟨rfl, hr⟩
  | num size n =>
    obtain ⟨h1, h2, h3, h4⟩ := hd
    refine (read_dataQ w W gu mb gp mi v ln labs its size n h1 none none hA hge.1 h hits h2 h4 h3 hv).mono ?_
    rintro r w' ⟨rfl, hr⟩
    refine ⟨rfl, ?_⟩
    simp only [Dl.labs, Dl.its, List.append_nil]
    exact hr

/-- All of them, with branches short. -/
theorem makes_dl (w W1 : World) (gu mb gp mi : Nat) (ls : List (Int × Dl)) (ob : Ob) (hA : AllLaid w) (h : Begun w W1 gu mb gp mi) (hn : ls.length ≤ 1000) (hok : ∀ a, a ∈ ls → a.2.ok) (hfree : ∀ k (hk : k < ls.length) p, ls[k].2 = .lab p → labelAt (plW p) (labsD 0 (ls.take k)) = none) (hfin : ∀ W, FinQ w W gu mb (labsD 0 ls) (fun _ => 0) (itsD ls) ob) : Makes w gu (ls.map fun a => (a.1, a.2.toks)) ob W1 := by
  have hge := h.ge
  refine ⟨⟨fun k W => ∃ ln, AlQ w W gu mb gp mi ln (labsD 0 (ls.take k)) (itsD (ls.take k)) none none, fun W => ∃ ln, AlQ w W gu mb gp mi ln (labsD 0 ls) (itsD ls) none none, fun W' => RdyQ w W' gu ob, ⟨0, AlQ.of h.al⟩, ?_, ?_, ?_, ?_, ?_⟩⟩
  · rintro k W ⟨ln, hn⟩
    obtain ⟨nv, hu, _⟩ := hn.ur
    obtain ⟨_, _, x1, _⟩ := hu.its
    exact ⟨hn.bx, _, x1, ln, rfl⟩
  · rintro k hk W v ⟨ln, hn'⟩ hv
    have hk' : k < ls.length := by simpa using hk
    simp only [List.getElem_map] at hv ⊢
    have hli := itsD_len (ls.take k)
    have hll := labsD_len (ls.take k) 0
    rw [List.length_take] at hli hll
    refine (read_dl w _ gu mb gp mi v ls[k].1 (labsD 0 (ls.take k)) (itsD (ls.take k)) ls[k].2 (hok _ (List.getElem_mem _)) hA ⟨hge.1, hge.2.1⟩ h.ne (hn'.line hge.1 _ _) (by omega) (by omega) (hfree k hk') hv).mono ?_
    rintro r w' ⟨rfl, hr⟩
    refine ⟨rfl, ls[k].1, ?_⟩
    rw [List.take_succ_eq_append_getElem hk', labsD_snoc, itsD_snoc, Nat.zero_add]
    exact hr
  · rintro W ⟨ln, hn'⟩
    rw [List.length_map, List.take_length] at hn'
    have hp := hn'.po
    obtain ⟨nv, hu, _⟩ := hn'.ur
    obtain ⟨_, _, x1, _⟩ := hu.its
    refine (endPool_none gu gp none 0 W (blk_cell x1 rfl) (blk_cell hp.1 rfl)).mono ?_
    rintro r w' ⟨rfl, rfl⟩
    exact ⟨rfl, ln, hn'⟩
  · rintro W ⟨ln, hn'⟩
    exact lay_finQ w W gu mb gp mi ln (labsD 0 ls) (fun _ => 0) (itsD ls) none none ob hA hge.1 hn' (hfin W)
  · rintro W' hr
    exact write_finQ w W' gu ob hA hge.1 hr

end Go.Proofs.YtjmjhbdlbmnllaaGreatDoor

namespace Go.Proofs.YtjmjhbdlbmnllaaGreatDoor
open Go.RowKit Go.Maps Go.MapKept

/-- Rows with their names ahead of them; k: the first one's number. -/
def withLabs (led : Nat → Bool) : Nat → List Dl → List Dl
  | _, [] => []
  | k, d :: r => if led k = true then .lab (2 * k) :: d :: withLabs led (k + 1) r else d :: withLabs led (k + 1) r
def Dl.row : Dl → Bool
  | .lab _ => false
  | _ => true
def Dl.it (ln : Int) : Dl → It
  | .lab _ => fillI ln 1
  | .ins k n m imm p => (insD k n m imm p).it ln
  | .num size n => numI ln size [] n
theorem its_row {d : Dl} (h : d.row = true) (ln : Int) : d.its ln = [d.it ln] := by cases d <;> first | rfl | cases h
theorem labs_row {d : Dl} (h : d.row = true) (k : Nat) : d.labs k = [] := by cases d <;> first | rfl | cases h

/-- Items, one a row, whatever lines they are of. -/
inductive Its : List Dl → List It → Prop where
  | nil : Its [] []
  | cons {d : Dl} {r : List Dl} {l : List It} (ln : Int) : Its r l → Its (d :: r) (d.it ln :: l)
theorem Its.len {r : List Dl} {l : List It} (h : Its r l) : l.length = r.length := by induction h with | nil => rfl | cons _ _ ih => simp [ih]
theorem Its.at_ {r : List Dl} {l : List It} (h : Its r l) : ∀ (i : Nat) (h1 : i < r.length) (h2 : i < l.length), ∃ ln, l[i] = r[i].it ln := by
  induction h with
  | nil => intro i h1; simp at h1
  | cons ln _ ih =>
    intro i h1 h2
    cases i with
    | zero => exact ⟨ln, rfl⟩
    | succ i => exact ih i (by simpa using h1) (by simpa using h2)
theorem its_of (led : Nat → Bool) : ∀ (r : List Dl) (k j : Nat), (∀ d, d ∈ r → d.row = true) → Its r (itsD (numD j (withLabs led k r)))
  | [], k, j, _ => .nil
  | d :: r, k, j, h => by
    have h1 := h d (by simp)
    have h2 : ∀ x, x ∈ r → x.row = true := fun x hx => h x (by simp [hx])
    unfold withLabs
    split
    · have ih := its_of led r (k + 1) (j + 1 + 1) h2
      have e : itsD (numD j (.lab (2 * k) :: d :: withLabs led (k + 1) r)) = d.it ((j + 1 : Nat) : Int) :: itsD (numD (j + 1 + 1) (withLabs led (k + 1) r)) := by
        simp only [numD, itsD, List.flatMap_cons, its_row h1]
        rfl
      rw [e]
      exact .cons _ ih
    · have ih := its_of led r (k + 1) (j + 1) h2
      have e : itsD (numD j (d :: withLabs led (k + 1) r)) = d.it (j : Int) :: itsD (numD (j + 1) (withLabs led (k + 1) r)) := by
        simp only [numD, itsD, List.flatMap_cons, its_row h1]
        rfl
      rw [e]
      exact .cons _ ih
def labP (l : List Nat) : List (List UInt8 × Nat) := l.map fun i => (plW (2 * i), i)
theorem labs_of (led : Nat → Bool) : ∀ (r : List Dl) (k j : Nat), (∀ d, d ∈ r → d.row = true) → labsD k (numD j (withLabs led k r)) = labP ((List.range' k r.length).filter led)
  | [], k, j, _ => rfl
  | d :: r, k, j, h => by
    have h1 := h d (by simp)
    have h2 : ∀ x, x ∈ r → x.row = true := fun x hx => h x (by simp [hx])
    rw [List.length_cons, List.range'_succ, List.filter_cons]
    unfold withLabs
    split
    · have ih := labs_of led r (k + 1) (j + 1 + 1) h2
      have e : labsD k (numD j (.lab (2 * k) :: d :: withLabs led (k + 1) r)) = [(plW (2 * k), k)] ++ (d.labs (k + 0) ++ labsD (k + 0 + (d.its ((j + 1 : Nat) : Int)).length) (numD (j + 1 + 1) (withLabs led (k + 1) r))) := rfl
      rw [e, labs_row h1, its_row h1]
      simp only [List.nil_append, List.length_singleton, Nat.add_zero, ih]
      rfl
    · have ih := labs_of led r (k + 1) (j + 1) h2
      simp only [numD, labsD, labs_row h1, its_row h1, List.length_singleton, List.nil_append, ih]
theorem labP_at (q : Nat) (hq : 2 * q ≤ 2000) : ∀ l : List Nat, (∀ i, i ∈ l → 2 * i ≤ 2000) → labelAt (plW (2 * q)) (labP l) = if q ∈ l then some q else none
  | [], _ => rfl
  | a :: l, h => by
    have ih := labP_at q hq l fun i hi => h i (by simp [hi])
    have ha := h a (by simp)
    show (if plW (2 * a) = plW (2 * q) then some a else labelAt (plW (2 * q)) (labP l)) = _
    by_cases e : a = q
    · subst e
      rw [if_pos rfl, if_pos (by simp)]
    · rw [if_neg (fun h => e (by have := plW_inj ha hq h; omega)), ih]
      have : (q ∈ a :: l) ↔ q ∈ l := by simp [Ne.symm e]
      simp only [this]

/-- Where an instruction of shape s leads. -/
def goalS (s imm at' : Int) : Int := if s = 8 then at' - at' % 4 + 4 + 4 * imm else at' + 2 * imm + 4
/-- What is known of row i of n. -/
def RowOk (led : Nat → Bool) (n i : Nat) : Dl → Prop
  | .lab _ => False
  | .ins k a b imm p => Known k a b imm ∧ Isa.wrongI k a b imm = 0 ∧ p ≤ 2000 ∧ (leadS (Isa.opShape k) → ∃ q, p = 2 * q ∧ q < n ∧ led q = true ∧ (p : Int) = goalS (Isa.opShape k) imm ((2 * i : Nat) : Int))
  | .num size u => (size = 2 ∧ 0 ≤ u ∧ u ≤ 65535) ∨ (size = 1 ∧ i + 1 = n ∧ 0 ≤ u ∧ u ≤ 255)
theorem RowOk.row {led : Nat → Bool} {n i : Nat} {d : Dl} (h : RowOk led n i d) : d.row = true := by cases d <;> first | rfl | cases h
def Dl.bytes : Dl → List UInt8
  | .lab _ => []
  | .ins k n m imm _ => half (Isa.encI k n m imm)
  | .num size u => if size = 1 then [lowB u] else half u
def Dl.size : Dl → Int
  | .num size _ => size
  | _ => 2

theorem it_insD {k : Nat} {n m imm : Int} (h : Known k n m imm) (p : Nat) (ln : Int) : (insD k n m imm p).it ln = if leadS (Isa.opShape k) then leadI ln k n m 0 (.val (plW p) 0) else plainI ln k n m imm := by
  have hi0 : -70000 ≤ imm := by have := h.i0; omega
  have hi1 : imm ≤ 70000 := by have := h.i1; omega
  have hfill := fill_K k (nameN k) (Isa.opShape k) n m imm p h.n0 h.n1 h.m0 h.m1 hi0 hi1 h.s h.hn h.hm h.hi
  have e : (insD k n m imm p).fill = ⟨k, n, m, if leadS (Isa.opShape k) then 0 else imm⟩ := hfill
  have hops : (insD k n m imm p).ops = operK (Isa.opShape k) n m imm p := rfl
  unfold Ins.it
  rw [e, hops]
  have hs := h.s
  generalize Isa.opShape k = s at *
  have h12 : s = 0 ∨ s = 1 ∨ s = 2 ∨ s = 3 ∨ s = 4 ∨ s = 5 ∨ s = 6 ∨ s = 7 ∨ s = 8 ∨ s = 9 ∨ s = 10 ∨ s = 11 := by omega
  have hS : ∀ r, (match opS imm :: r with | .name nm :: _ => leadI ln k n m imm (.val nm 0) | _ => plainI ln k n m imm) = plainI ln k n m imm := by
    intro r
    by_cases h : imm < 0 <;> simp [opS, h]
  rcases h12 with rfl | rfl | rfl | rfl | rfl | rfl | rfl | rfl | rfl | rfl | rfl | rfl
  · rfl
  · exact hS _
  · rfl
  · rfl
  · rfl
  · rfl
  · rfl
  · rfl
  · rfl
  · rfl
  · rfl
  · exact hS _

/-- The items' sizes and gaps. -/
theorem it_size {led : Nat → Bool} {n i : Nat} {d : Dl} (h : RowOk led n i d) (ln : Int) : (d.it ln).size = d.size ∧ (d.it ln).upTo = 1 ∧ (d.it ln).align = d.size := by
  cases d with
  | lab p => cases h
  | ins k a b imm p =>
    have e : Dl.it ln (.ins k a b imm p) = _ := it_insD h.1 p ln
    rw [e]
    split <;> exact ⟨rfl, rfl, rfl⟩
  | num size u => exact ⟨rfl, rfl, rfl⟩
theorem tell_sum : ∀ (l : List It) (p : Int) (j : Nat), (∀ x, x ∈ l → x.upTo = 1) → j ≤ l.length → (tellU p l).getD j 0 = p + ((l.take j).map (·.size)).sum
  | [], p, j, _, hj => by
    obtain rfl : j = 0 := by simpa using hj
    simp [tellU]
  | x :: l, p, 0, _, _ => by simp [tellU]
  | x :: l, p, j + 1, h, hj => by
    have ih := tell_sum l (p + (x.size + (x.upTo - p.tmod x.upTo).tmod x.upTo)) j (fun y hy => h y (by simp [hy])) (by simpa using hj)
    have hx := h x (by simp)
    rw [tellU, List.getD_cons_succ, ih, hx]
    simp
    omega
theorem sum_two : ∀ (l : List Int), (∀ x, x ∈ l → x = 2) → l.sum = 2 * (l.length : Int)
  | [], _ => rfl
  | a :: l, h => by
    have ih := sum_two l fun x hx => h x (by simp [hx])
    have := h a (by simp)
    simp only [List.sum_cons, List.length_cons, ih]
    omega

section
variable {led : Nat → Bool} {r : List Dl} {l : List It} (hI : Its r l) (hR : ∀ i (h : i < r.length), RowOk led r.length i r[i])
include hI hR
theorem up_one : ∀ x, x ∈ l → x.upTo = 1 := by
  intro x hx
  obtain ⟨i, hi, rfl⟩ := List.getElem_of_mem hx
  have hir : i < r.length := by rw [← hI.len]; exact hi
  obtain ⟨ln, e⟩ := hI.at_ i hir hi
  rw [e]
  exact (it_size (hR i hir) ln).2.1
theorem size_two (i : Nat) (hi : i < l.length) (h1 : i + 1 < r.length) : l[i].size = 2 := by
  have hir : i < r.length := by omega
  obtain ⟨ln, e⟩ := hI.at_ i hir hi
  rw [e, (it_size (hR i hir) ln).1]
  have := hR i hir
  cases hd : r[i] with
  | lab p => rfl
  | ins k a b imm p => rfl
  | num size u =>
    rw [hd] at this
    rcases this with ⟨rfl, _⟩ | ⟨_, h, _⟩
    · rfl
    · omega
theorem tell_2k (j : Nat) (hj : j < r.length) : (tellU 0 l).getD j 0 = 2 * (j : Int) := by
  have hl := hI.len
  rw [tell_sum l 0 j (up_one hI hR) (by omega), sum_two]
  · simp [List.length_take]
    omega
  · intro x hx
    obtain ⟨y, hy, rfl⟩ := List.mem_map.1 hx
    obtain ⟨i, hi, rfl⟩ := List.getElem_of_mem hy
    rw [List.length_take] at hi
    rw [List.getElem_take]
    exact size_two hI hR i (by omega) (by omega)
theorem tell_step' (j : Nat) (hj : j < r.length) : (tellU 0 l).getD (j + 1) 0 - (tellU 0 l).getD j 0 = r[j].size := by
  have hl := hI.len
  have hjl : j < l.length := by omega
  obtain ⟨ln, e⟩ := hI.at_ j hj hjl
  rw [tell_sum l 0 (j + 1) (up_one hI hR) (by omega), tell_sum l 0 j (up_one hI hR) (by omega), List.take_succ_eq_append_getElem hjl, List.map_append, List.sum_append]
  simp only [List.map_cons, List.map_nil, List.sum_cons, List.sum_nil]
  rw [e, (it_size (hR j hj) ln).1]
  omega
end

end Go.Proofs.YtjmjhbdlbmnllaaGreatDoor

namespace Go.Proofs.YtjmjhbdlbmnllaaGreatDoor
open Go.RowKit Go.Maps Go.MapKept

theorem writeU_all (u : Un) (ps : List Int) : ∀ (l : List It) (bs : List (List UInt8)) (k : Nat) (code : List UInt8), bs.length = l.length → (∀ i (h : i < l.length) (h2 : i < bs.length), (ps.getD (k + i) 0).tmod l[i].align = 0 ∧ bytesU u ps (ps.getD (k + i) 0) (ps.getD (k + i + 1) 0 - ps.getD (k + i) 0) [] l[i] = .ok (bs[i], [])) → writeU u ps k code [] l = .ok (code ++ bs.flatten, [])
  | [], bs, k, code, hl, _ => by
    obtain rfl : bs = [] := List.eq_nil_of_length_eq_zero hl
    simp [writeU]
  | x :: l, [], k, code, hl, _ => by simp at hl
  | x :: l, b :: bs, k, code, hl, h => by
    obtain ⟨h1, h2⟩ := h 0 (by simp) (by simp)
    simp only [Nat.add_zero, List.getElem_cons_zero] at h1 h2
    have ih := writeU_all u ps l bs (k + 1) (code ++ b) (by simpa using hl) (fun i hi hi2 => by
      have := h (i + 1) (by simpa using hi) (by simpa using hi2)
      simp only [List.getElem_cons_succ] at this
      rw [show k + 1 + i = k + (i + 1) by omega]
      exact this)
    rw [writeU, if_neg (by rw [h1]; simp), h2]
    simp only
    rw [ih, List.flatten_cons, List.append_assoc]
theorem longU_none (u : Un) (ps : List Int) : ∀ (l : List It) (k : Nat), (∀ i (h : i < l.length), farU u ps (ps.getD (k + i) 0) l[i].gen = false) → (longU u ps k l).2 = false
  | [], k, _ => rfl
  | x :: l, k, h => by
    have h0 := h 0 (by simp)
    simp only [Nat.add_zero, List.getElem_cons_zero] at h0
    have ih := longU_none u ps l (k + 1) (fun i hi => by
      have := h (i + 1) (by simpa using hi)
      simp only [List.getElem_cons_succ] at this
      rw [show k + 1 + i = k + (i + 1) by omega]
      exact this)
    rw [longU, if_neg (by rw [h0]; simp)]
    exact ih
theorem labP_some : ∀ (l : List Nat) (nm : List UInt8) (k : Nat), labelAt nm (labP l) = some k → k ∈ l
  | [], nm, k, h => by cases h
  | a :: l, nm, k, h => by
    have e : labelAt nm (labP (a :: l)) = if plW (2 * a) = nm then some a else labelAt nm (labP l) := rfl
    rw [e] at h
    split at h
    · injection h with h; simp [h]
    · exact List.mem_cons_of_mem _ (labP_some l nm k h)

theorem shape_is {k : Nat} (h0 : 1 ≤ k) (h1 : k ≤ 27) : Isa.infoShape (k : Int) = Isa.opShape k := by
  unfold Isa.infoShape Isa.knownB Isa.withinB
  rw [if_pos (by simp; omega)]
theorem near_imm {k : Nat} {n m imm : Int} (hw : Isa.wrongI k n m imm = 0) (hs : Isa.opShape k = 4) : -128 ≤ imm ∧ imm ≤ 127 := by
  unfold Isa.wrongI at hw
  split at hw
  · split at hw
    · rename_i h
      have := h.2.2
      rw [hs] at this
      have a : Isa.layLow 4 = -128 := rfl
      have b : Isa.layHigh 4 = 127 := rfl
      rw [a, b] at this
      simpa [Isa.withinB] using this
    · omega
  · omega
theorem led_is {k : Nat} {imm : Int} {i : Nat} (h0 : 1 ≤ k) (h1 : k ≤ 27) (_hl : leadS (Isa.opShape k)) : ledU k ((2 * i : Nat) : Int) (goalS (Isa.opShape k) imm ((2 * i : Nat) : Int)) = .ok imm := by
  unfold ledU awayU goalS
  rw [shape_is h0 h1]
  by_cases h8 : Isa.opShape k = 8
  · rw [if_pos h8, if_pos h8]
    have e : ((2 * i : Nat) : Int) - ((2 * i : Nat) : Int) % 4 + 4 + 4 * imm - (((2 * i : Nat) : Int) + 4 - (((2 * i : Nat) : Int) + 4).tmod 4) = 4 * imm := by
      rw [Int.tmod_eq_emod_of_nonneg (by omega)]
      omega
    simp only [e]
    rw [if_neg (by simp), Int.mul_tdiv_cancel_left _ (by decide)]
  · rw [if_neg h8, if_neg h8]
    have e : ((2 * i : Nat) : Int) + 2 * imm + 4 - (((2 * i : Nat) : Int) + 4) = 2 * imm := by omega
    simp only [e]
    rw [if_neg (by simp), Int.mul_tdiv_cancel_left _ (by decide)]

section
variable {led : Nat → Bool} {r : List Dl} {l : List It} (hI : Its r l) (hR : ∀ i (h : i < r.length), RowOk led r.length i r[i]) (hn : r.length ≤ 1000)
include hI hR hn
theorem bytes_row (f : Nat → Nat) (i : Nat) (hi : i < r.length) (ln : Int) : bytesU ⟨labP ((List.range' 0 r.length).filter led), l, f⟩ (tellU 0 l) ((2 * i : Nat) : Int) r[i].size [] (r[i].it ln) = .ok (r[i].bytes, []) := by
  have h := hR i hi
  cases hd : r[i] with
  | lab p => rw [hd] at h; cases h
  | num size u =>
    rw [hd] at h
    rcases h with ⟨rfl, _⟩ | ⟨rfl, _⟩ <;> rfl
  | ins k a b imm p =>
    rw [hd] at h
    obtain ⟨hk, hw, hp, hl⟩ := h
    have e : Dl.it ln (.ins k a b imm p) = _ := it_insD hk p ln
    rw [e]
    split
    · rename_i hlead
      obtain ⟨q, rfl, hq, hled, hg⟩ := hl hlead
      have hmem : q ∈ (List.range' 0 r.length).filter led := by simp [hq, hled]
      have hat : labelAt (plW (2 * q)) (labP ((List.range' 0 r.length).filter led)) = some q := by
        rw [labP_at q (by omega) _ (fun j hj => by simp at hj; omega), if_pos hmem]
      have hne : plW (2 * q) ≠ [] := by simp [plW]
      have eg : (2 * (q : Int) + 0 : Int) = goalS (Isa.opShape k) imm ((2 * i : Nat) : Int) := by rw [← hg]; omega
      have hgo : goalU ⟨labP ((List.range' 0 r.length).filter led), l, f⟩ (tellU 0 l) (.val (plW (2 * q)) 0) = .ok (goalS (Isa.opShape k) imm ((2 * i : Nat) : Int)) := by
        unfold goalU placeU
        simp only [if_neg hne, hat]
        rw [tell_2k hI hR q hq, eg]
      unfold bytesU leadI
      simp only [hgo, led_is hk.k0 hk.k1 hlead]
      rw [if_neg (by show ¬ (2 : Int) = 6; decide)]
      unfold encU
      rw [if_pos hw]
      rfl
    · show (encU k a b imm).map _ = _
      unfold encU
      rw [if_pos hw]
      rfl
theorem far_row (f : Nat → Nat) (i : Nat) (hi : i < r.length) (ln : Int) : farU ⟨labP ((List.range' 0 r.length).filter led), l, f⟩ (tellU 0 l) ((2 * i : Nat) : Int) (r[i].it ln).gen = false := by
  have h := hR i hi
  cases hd : r[i] with
  | lab p => rw [hd] at h; cases h
  | num size u => rfl
  | ins k a b imm p =>
    rw [hd] at h
    obtain ⟨hk, hw, hp, hl⟩ := h
    have e : Dl.it ln (.ins k a b imm p) = _ := it_insD hk p ln
    rw [e]
    split
    · rename_i hlead
      obtain ⟨q, rfl, hq, hled, hg⟩ := hl hlead
      have hmem : q ∈ (List.range' 0 r.length).filter led := by simp [hq, hled]
      have hat : labelAt (plW (2 * q)) (labP ((List.range' 0 r.length).filter led)) = some q := by
        rw [labP_at q (by omega) _ (fun j hj => by simp at hj; omega), if_pos hmem]
      have hne : plW (2 * q) ≠ [] := by simp [plW]
      show farU _ _ _ (.lead k a b 0 (.val (plW (2 * q)) 0)) = false
      unfold farU
      simp only
      split
      · rename_i h4
        rw [shape_is hk.k0 hk.k1] at h4
        have eg : (2 * (q : Int) + 0 : Int) = ((2 * i : Nat) : Int) + 2 * imm + 4 := by
          unfold goalS at hg
          rw [h4, if_neg (by decide)] at hg
          omega
        have hgo : goalU ⟨labP ((List.range' 0 r.length).filter led), l, f⟩ (tellU 0 l) (.val (plW (2 * q)) 0) = .ok (((2 * i : Nat) : Int) + 2 * imm + 4) := by
          unfold goalU placeU
          simp only [if_neg hne, hat]
          rw [tell_2k hI hR q hq, eg]
        have hb := near_imm hw h4
        have hnr : nearU ((2 * i : Nat) : Int) (((2 * i : Nat) : Int) + 2 * imm + 4) = true := by
          unfold nearU awayU
          rw [if_neg (by decide)]
          simp only [decide_eq_true_eq]
          omega
        simp only [hgo, hnr]
        rfl
      · rfl
    · rfl
theorem fin_dl (w W : World) (gu mb : Nat) (h0 : 0 < r.length) : FinQ w W gu mb (labP ((List.range' 0 r.length).filter led)) (fun _ => 0) l ⟨(r.map Dl.bytes).flatten, symsU ⟨labP ((List.range' 0 r.length).filter led), l, fun _ => 0⟩ (tellU 0 l), []⟩ := by
  have hl := hI.len
  have hLm : ∀ i, i ∈ (List.range' 0 r.length).filter led → i < r.length := fun i hi => by simp at hi; omega
  have hLn : ((List.range' 0 r.length).filter led).length ≤ 1000 := Nat.le_trans (List.length_filter_le _ _) (by simpa using hn)
  have hall : ∀ x, x ∈ l → GoodB (labP ((List.range' 0 r.length).filter led)) x ∧ EndK W (fun _ => 0) l.length x := by
    intro x hx
    obtain ⟨i, hi, rfl⟩ := List.getElem_of_mem hx
    have hir : i < r.length := by omega
    obtain ⟨ln, e⟩ := hI.at_ i hir hi
    rw [e]
    have h := hR i hir
    cases hd : r[i] with
    | lab p => rw [hd] at h; cases h
    | num size u =>
      rw [hd] at h
      have hs : size = 1 ∨ size = 2 := by rcases h with ⟨rfl, _⟩ | ⟨rfl, _⟩ <;> simp
      have hu : 0 ≤ u ∧ u ≤ 70000 := by rcases h with ⟨_, h⟩ | ⟨_, _, h⟩ <;> omega
      rcases hs with rfl | rfl
      · exact ⟨trivial, ⟨by show (0 : Int) ≤ 1; decide, by show (1 : Int) ≤ 6; decide, by show (1 : Int) ≤ 1; decide, by show (1 : Int) ≤ 16; decide⟩, ⟨by show (1 : Int) ≤ 1; decide, by show (1 : Int) ≤ 16; decide⟩, by show (1 : Int) ≤ 4; decide, .inl rfl, rfl, by show (0 : Nat) ≤ maxLen; omega, by omega, by omega⟩
      · exact ⟨trivial, ⟨by show (0 : Int) ≤ 2; decide, by show (2 : Int) ≤ 6; decide, by show (1 : Int) ≤ 1; decide, by show (1 : Int) ≤ 16; decide⟩, ⟨by show (1 : Int) ≤ 2; decide, by show (2 : Int) ≤ 16; decide⟩, by show (2 : Int) ≤ 4; decide, .inr (.inl rfl), rfl, by show (0 : Nat) ≤ maxLen; omega, by omega, by omega⟩
    | ins k a b imm p =>
      rw [hd] at h
      obtain ⟨hk, hw, hp, hlq⟩ := h
      have e' : Dl.it ln (.ins k a b imm p) = _ := it_insD hk p ln
      rw [e']
      split
      · rename_i hlead
        obtain ⟨q, rfl, hq, hled, hg⟩ := hlq hlead
        have hmem : q ∈ (List.range' 0 r.length).filter led := by simp [hq, hled]
        have hat : labelAt (plW (2 * q)) (labP ((List.range' 0 r.length).filter led)) = some q := by
          rw [labP_at q (by omega) _ (fun j hj => by have := hLm j hj; omega), if_pos hmem]
        have hlen : (plW (2 * q)).length ≤ maxLen := by have := (plW_good (2 * q) hp).2.2.2; unfold maxLen; omega
        exact ⟨fun _ => ⟨.inl rfl, plW (2 * q), 0, q, rfl, by simp [plW], hlen, by decide, by decide, hat⟩, ⟨by show (0 : Int) ≤ 2; decide, by show (2 : Int) ≤ 6; decide, by show (1 : Int) ≤ 1; decide, by show (1 : Int) ≤ 16; decide⟩, ⟨by show (1 : Int) ≤ 2; decide, by show (2 : Int) ≤ 16; decide⟩, by show (2 : Int) ≤ 4; decide, rfl, rfl, hlen, by decide, by decide⟩
      · exact ⟨trivial, ⟨by show (0 : Int) ≤ 2; decide, by show (2 : Int) ≤ 6; decide, by show (1 : Int) ≤ 1; decide, by show (1 : Int) ≤ 16; decide⟩, ⟨by show (1 : Int) ≤ 2; decide, by show (2 : Int) ≤ 16; decide⟩, by show (2 : Int) ≤ 4; decide, trivial⟩
  have hps : ∀ j, j < r.length → (tellU 0 l).getD j 0 = ((2 * j : Nat) : Int) := fun j hj => by rw [tell_2k hI hR j hj]; omega
  refine ⟨fun i hi => (hall i hi).1, fun i hi => (hall i hi).2, by omega, by omega, ?_, ?_, by simp [labP]; omega, ?_, ?_, ?_, rfl, ?_⟩
  · intro nm k hk
    have := hLm k (labP_some _ nm k hk)
    omega
  · intro j hj
    have hj' : j < ((List.range' 0 r.length).filter led).length := by simpa [labP] using hj
    have hq := hLm _ (List.getElem_mem hj')
    have e : (labP ((List.range' 0 r.length).filter led))[j] = (plW (2 * ((List.range' 0 r.length).filter led)[j]), ((List.range' 0 r.length).filter led)[j]) := by simp [labP]
    rw [e]
    simp only
    refine ⟨?_, ?_⟩
    · rw [labP_at _ (by omega) _ (fun i hi => by have := hLm i hi; omega), if_pos (List.getElem_mem hj')]
    · have := (plW_good (2 * ((List.range' 0 r.length).filter led)[j]) (by omega)).2.2.2
      unfold maxLen
      omega
  · have h1 := tell_step' hI hR (r.length - 1) (by omega)
    have h2 := hps (r.length - 1) (by omega)
    have hs : r[r.length - 1].size ≤ 2 := by
      have := hR (r.length - 1) (by omega)
      cases hd : r[r.length - 1] with
      | lab p => rw [hd] at this; cases this
      | ins k a b imm p => exact Int.le_refl 2
      | num size u =>
        rw [hd] at this
        show size ≤ 2
        rcases this with ⟨rfl, _⟩ | ⟨rfl, _⟩ <;> decide
    rw [show r.length - 1 + 1 = r.length by omega] at h1
    rw [hl]
    omega
  · refine longU_none _ _ l 0 fun i hi => ?_
    have hir : i < r.length := by omega
    obtain ⟨ln, e⟩ := hI.at_ i hir hi
    rw [e, Nat.zero_add, hps i hir]
    exact far_row hI hR hn _ i hir ln
  · have := writeU_all ⟨labP ((List.range' 0 r.length).filter led), l, fun _ => 0⟩ (tellU 0 l) l (r.map Dl.bytes) 0 [] (by simp [hl]) (fun i hi hi2 => by
      have hir : i < r.length := by omega
      obtain ⟨ln, e⟩ := hI.at_ i hir hi
      rw [e, Nat.zero_add, tell_step' hI hR i hir, hps i hir, List.getElem_map]
      refine ⟨?_, bytes_row hI hR hn _ i hir ln⟩
      rw [(it_size (hR i hir) ln).2.2]
      have := hR i hir
      cases hd : r[i] with
      | lab p => rw [hd] at this; cases this
      | ins k a b imm p =>
        show ((2 * i : Nat) : Int).tmod 2 = 0
        rw [Int.tmod_eq_emod_of_nonneg (by omega)]
        omega
      | num size u =>
        rw [hd] at this
        show ((2 * i : Nat) : Int).tmod size = 0
        rcases this with ⟨rfl, _⟩ | ⟨rfl, _⟩
        · rw [Int.tmod_eq_emod_of_nonneg (by omega)]
          omega
        · simp)
    rw [List.nil_append] at this
    exact this
  · refine ⟨?_, by simp⟩
    show ((r.map Dl.bytes).flatten).length ≤ 100000
    have key : ∀ q : List Dl, ((q.map Dl.bytes).flatten).length ≤ 2 * q.length := by
      intro q
      induction q with
      | nil => simp
      | cons d q ih =>
        have hb : d.bytes.length ≤ 2 := by
          cases d with
          | lab p => simp [Dl.bytes]
          | ins k a b imm p => simp [Dl.bytes, half]
          | num size u => unfold Dl.bytes; simp only; split <;> simp [half]
        simp only [List.map_cons, List.flatten_cons, List.length_append, List.length_cons]
        omega
    have := key r
    omega
end

end Go.Proofs.YtjmjhbdlbmnllaaGreatDoor
