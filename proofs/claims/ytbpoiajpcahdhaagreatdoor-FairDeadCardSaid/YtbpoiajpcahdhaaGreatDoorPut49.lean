/- asm: places laid and all written: the end of build, where nothing must be long. asm: 'nop' built. asm: the unit of three lines that is asked for ahead of all else. asm: the three lines read. asm: the first of the three lines read: a label, and a load off the pool. asm: the unit of the three lines built. asm: the unit of the three lines, from its source. asm: Build of the line 'nop'. asm: the unit of the line 'nop', from its source. What is laid stays; numbers as texts. -/
import Derived.Test.YtbpoiajpcahdhaaGreatDoorPut48
import Derived.Test.YtbpoiajpcahdhaaGreatDoorPut41
import Derived.Test.YtbpoiajpcahdhaaGreatDoorDsShelf
import Derived.Lib.ConvBytes
import Derived.Lib.AtoiErrMem
namespace Go.Proofs.YtbpoiajpcahdhaaGreatDoor
open Go.RowKit

/-- A goal that stands in a unit: its pool is laid. -/
def SlotOk (W : World) (firsts : Nat → Nat) (n : Nat) : Goal → Prop
  | .val nm add => nm.length ≤ maxLen ∧ -100000000000 ≤ add ∧ add ≤ 100000000000
  | .slot g i => firsts g + i ≤ n ∧ ∃ vv mv, W.heap[g]? = some (.cells #[.int .i64 (firsts g), vv, mv] 162 (0, 0))
/-- What is asked of an item. -/
def EndOk (W : World) (firsts : Nat → Nat) (n : Nat) (i : It) : Prop :=
  NoFar i ∧ Laid1 i ∧ (1 ≤ i.align ∧ i.align ≤ 16) ∧ i.size ≤ 4 ∧
  match i.gen with
  | .fill => True
  | .num nm add => (i.size = 1 ∨ i.size = 2 ∨ i.size = 4) ∧ i.upTo = 1 ∧ nm.length ≤ maxLen ∧ -100000000000 ≤ add ∧ add ≤ 100000000000
  | .plain _ _ _ _ => True
  | .lead _ _ _ _ q => i.size = 2 ∧ i.upTo = 1 ∧ SlotOk W firsts n q

/-- A unit whose lines are read and whose pools are laid. -/
structure Ended (w W : World) (gu mb : Nat) (labs : List (List UInt8 × Nat)) (firsts : Nat → Nat) (its : List It) (code : List UInt8) (rs : List Re) : Prop where
  bx : Bx w W
  gge : w.heap.size + 2 ≤ gu
  ur : ∃ ln nv pp, UR W (gu + 1) gu (.slice none 0 0) ln nv (.map (some mb)) pp (.slice none 0 0) (.slice none 0 0) its ∧ W.ownsRow (gu + 1) 9 1 nv labs.length (nameC labs)
  lb : LbR W mb labs
  laid : Isa.Laid W
  hi : max 5 8 < gu
  n : its.length ≤ 1000
  ok : ∀ i, i ∈ its → EndOk W firsts its.length i
  last : (tellU 0 its).getD its.length 0 ≤ 8000
  wr : writeU ⟨labs, its, firsts⟩ (tellU 0 its) 0 [] [] its = .ok (code, rs)
  cl : code.length ≤ 100000 ∧ rs.length ≤ 100000
  lbk : ∀ nm k, labelAt nm labs = some k → k ≤ its.length
  lbs : ∀ j (h : j < labs.length), labelAt labs[j].1 labs = some labs[j].2 ∧ labs[j].1.length ≤ maxLen
  ll : labs.length ≤ 100000

/-- Laid. -/
def Told (w W W' : World) (gu mb : Nat) (labs : List (List UInt8 × Nat)) (firsts : Nat → Nat) (its : List It) (code : List UInt8) (rs : List Re) : Prop :=
  Ended w W gu mb labs firsts its code rs ∧ Fr gu W.heap.size W W' ∧ ∃ gp ln nv pp, W.heap.size ≤ gp ∧ UR W' (gu + 1) gu (.slice none 0 0) ln nv (.map (some mb)) pp (.slice (some ⟨gp, 0, none⟩) (its.length + 1) (its.length + 1)) (.slice none 0 0) its ∧ W.ownsRow (gu + 1) 9 1 nv labs.length (nameC labs) ∧ PlR W' gp its.length (its.length + 1) (tellU 0 its)

theorem lay_end {w W : World} {gu mb : Nat} {labs : List (List UInt8 × Nat)} {firsts : Nat → Nat} {its : List It} {code : List UInt8} {rs : List Re} (h : Ended w W gu mb labs firsts its code rs) :
    Calls Tryz.prog 74 #[.pointer (some ⟨gu, 0, none⟩)] W fun r W' => r = .returned (.int .i64 0) ∧ Told w W W' gu mb labs firsts its code rs := by
  obtain ⟨ln, nv, pp, hu, hnv⟩ := h.ur
  have hn := h.n
  refine (lay_any gu (gu + 1) _ nv _ pp _ _ ⟨_, _, _, rfl⟩ ln its W hu (by omega) (fun x hx => (h.ok x hx).2.1) (fun pv w' hw => lengthen_none gu (gu + 1) _ nv _ pp pv _ ln its w' hw (by omega) (fun x hx => (h.ok x hx).1)) h.last).mono ?_
  rintro r W' ⟨rfl, ⟨gp, hgp, h1, h2⟩, h3⟩
  exact ⟨rfl, h, h3, gp, ln, nv, pp, hgp, h1, hnv, h2⟩

theorem write_end {w W W' : World} {gu mb : Nat} {labs : List (List UInt8 × Nat)} {firsts : Nat → Nat} {its : List It} {code : List UInt8} {rs : List Re} (h : Told w W W' gu mb labs firsts its code rs) :
    Calls Tryz.prog 75 #[.pointer (some ⟨gu, 0, none⟩)] W' fun r w' => ∃ ca cl cc sa sl sc qa ql qc, r = .returned (.tuple #[.agg #[.slice ca cl cc, .slice sa sl sc, .slice qa ql qc], .agg #[.int .i64 0, .int .i64 0]]) ∧ ObjAt w' (.slice ca cl cc) (.slice sa sl sc) (.slice qa ql qc) ⟨code, symsU ⟨labs, its, firsts⟩ (tellU 0 its), rs⟩ ∧ Bx w w' := by
  obtain ⟨he, hf, gp, ln, nv, pp, hgp, hu, hnv, hpl⟩ := h
  obtain ⟨iv, l, u1, u2, u3, u4⟩ := id hu.its
  obtain ⟨ln0, nv0, pp0, hu0, _⟩ := he.ur
  obtain ⟨iv0, l0, b1, _⟩ := id hu0.its
  have hgW := blk_lt b1
  have hge := he.gge
  have kp : ∀ {q : Nat} {o : Obj}, W.heap[q]? = some o → q ≠ gu → W'.heap[q]? = some o := fun {q o} hq hne => (hf.block q (blk_lt hq) hne).trans hq
  have hlb : LbR W' mb labs := by
    obtain ⟨D, ⟨es, ck, hb, F⟩, hd⟩ := he.lb
    exact ⟨D, ⟨es, ck, kp hb (by rintro rfl; rw [b1] at hb; cases hb), F⟩, hd⟩
  have hnv' : W'.ownsRow (gu + 1) 9 1 nv labs.length (nameC labs) := by
    refine ⟨hnv.1, ?_⟩
    rcases hnv.2 with h5 | ⟨g, cap, cur, h5, h6, h7, h8⟩
    · exact .inl h5
    · exact .inr ⟨g, cap, cur, h5, h6, kp h7 (by omega), h8⟩
  have hbd : ∀ k, 0 ≤ (tellU 0 its).getD k 0 ∧ (tellU 0 its).getD k 0 ≤ 1000000 := fun k => by
    by_cases hk : k ≤ its.length
    · have := tell_bounds its 0 k (Int.le_refl _) (fun x hx => (he.ok x hx).2.1) hk
      have := he.n
      omega
    · have : (tellU 0 its).getD k 0 = 0 := by
        rw [List.getD_eq_getElem?_getD, List.getElem?_eq_none (by rw [tell_len]; omega)]
        rfl
      omega
  let x : SU := ⟨gu, gp, mb, its.length, .slice none 0 0, nv, iv, pp, ln, labs, tellU 0 its, firsts⟩
  have hs : S0 x W' := ⟨hpl, hlb, he.laid.below (hf.lowd (Nat.le_of_lt hgW)) he.hi, he.hi, by have := he.n; show its.length ≤ 100000; omega, hbd, he.lbk⟩
  have hll : l.length = its.length := by rw [← u3]; simp
  refine (write_any x (gu + 1) W' its l code rs hs u1 u2 u3 rfl (fun p hp => (u4 p hp).shape.1) (fun i hi => (he.ok i hi).2.2.1) ?_ he.wr he.cl.1 he.cl.2 hnv' he.lbs he.ll).mono ?_
  · intro k hk rs1 rs2 b hrs hb
    have hki : k < its.length := by omega
    have hlk : l[k].1 = its[k] := by subst u3; simp
    have hok := he.ok its[k] (List.getElem_mem _)
    have hstep := tell_step its 0 k hki
    have hb0 := hbd k
    have hsz : (tellU 0 its).getD (k + 1) 0 - (tellU 0 its).getD k 0 = its[k].size + (its[k].upTo - ((tellU 0 its).getD k 0).tmod its[k].upTo).tmod its[k].upTo := by omega
    obtain ⟨g1, g2, g3, g4⟩ := hok.2.1
    have hr2 : 0 ≤ (its[k].upTo - ((tellU 0 its).getD k 0).tmod its[k].upTo).tmod its[k].upTo ∧ (its[k].upTo - ((tellU 0 its).getD k 0).tmod its[k].upTo).tmod its[k].upTo < its[k].upTo := by
      have ha : 0 ≤ ((tellU 0 its).getD k 0).tmod its[k].upTo ∧ ((tellU 0 its).getD k 0).tmod its[k].upTo < its[k].upTo := ⟨Int.tmod_nonneg _ hb0.1, Int.tmod_lt_of_pos _ (by omega)⟩
      exact ⟨Int.tmod_nonneg _ (by omega), Int.tmod_lt_of_pos _ (by omega)⟩
    refine bytes_any x W' its l[k].1 l[k].2.1 l[k].2.2 _ _ rs1 rs2 b (u4 _ (List.getElem_mem _)) ?_ hb0.1 hb0.2 hrs hb
    rw [hlk]
    unfold ItOk
    have hlast := hok.2.2.2.2
    cases hg : its[k].gen with
    | fill =>
      show 0 ≤ (tellU 0 its).getD (k + 1) 0 - (tellU 0 its).getD k 0 ∧ (tellU 0 its).getD (k + 1) 0 - (tellU 0 its).getD k 0 ≤ 100000
      rw [hsz]
      constructor <;> omega
    | num nm add =>
      rw [hg] at hlast
      simp only at hlast ⊢
      exact ⟨hlast.1, hlast.2.2.1, by omega, by omega⟩
    | plain op n m imm => trivial
    | lead op n m imm q =>
      rw [hg] at hlast
      simp only at hlast ⊢
      obtain ⟨e1, e2, e3⟩ := hlast
      refine ⟨?_, ?_⟩
      · rw [e2] at hr2
        show (tellU 0 its).getD (k + 1) 0 - (tellU 0 its).getD k 0 ≠ 6
        rw [hsz, e1, e2]
        omega
      · cases q with
        | val nm add => exact e3
        | slot g i =>
          obtain ⟨o1, vv, mv, o2⟩ := e3
          exact ⟨o1, vv, mv, kp o2 (by rintro rfl; rw [b1] at o2; injection o2 with o2; injection o2 with _ e5; exact absurd e5 (by decide))⟩
  · rintro r w' ⟨ca, cl, cc, sa, sl, sc, qa, ql, qc, rfl, h1, h2, h3, h4⟩
    have hx0 := kp he.bx.x0 (by omega)
    have hx1 := kp he.bx.x1 (by omega)
    have h4' : Fr gu W'.heap.size W' w' := h4
    have hB' : Below w.heap.size w W' := he.bx.bel.trans ((hf.lowd (Nat.le_of_lt hgW)).mono (by omega))
    refine ⟨ca, cl, cc, sa, sl, sc, qa, ql, qc, rfl, ⟨h1, h2, h3⟩, ⟨hB'.trans ((h4'.lowd (Nat.le_of_lt (blk_lt u1))).mono (by omega)), ?_, ?_⟩⟩
    · rw [h4'.block _ (blk_lt hx0) (by omega)]; exact hx0
    · rw [h4'.block _ (blk_lt hx1) (by omega)]; exact hx1

end Go.Proofs.YtbpoiajpcahdhaaGreatDoor

namespace Go.Proofs.YtbpoiajpcahdhaaGreatDoor
open Go.RowKit Go.Maps Go.MapKept

def findFrom' (name : List UInt8) (shape : Int) : Nat → Nat → Int
  | 0, _ => 0
  | fuel + 1, k => if Isa.knownB k = true ∧ (Isa.opName k).data.toList = name ∧ Isa.opShape k = shape then (k : Int) else findFrom' name shape fuel (k + 1)
theorem findFrom_eq (name : ByteArray) (shape : Int) : ∀ f k, Isa.findFrom name shape f k = findFrom' name.data.toList shape f k
  | 0, k => rfl
  | f + 1, k => by rw [Isa.findFrom, findFrom', findFrom_eq name shape f (k + 1), ByteArray.toList_eq, ByteArray.toList_eq]
def findU' (name form : List UInt8) : Nat → Nat → Int
  | 0, _ => 0
  | f + 1, k => if (formKd k).data.toList == form then (if findFrom' name k 28 0 = 0 then findU' name form f (k + 1) else findFrom' name k 28 0) else findU' name form f (k + 1)
theorem findU_eq (name form : ByteArray) : ∀ f k, findU name form f k = findU' name.data.toList form.data.toList f k
  | 0, k => rfl
  | f + 1, k => by rw [findU, findU', findU_eq name form f (k + 1), ByteArray.toList_eq, ByteArray.toList_eq, findFrom_eq]

theorem find_nop : findU ⟨#[110, 111, 112]⟩ ⟨#[]⟩ 12 0 = 1 := by
  rw [findU_eq]
  kernel_rfl

def tkNop : Tk := ⟨1, 0, ⟨#[110, 111, 112]⟩⟩
def nopIts : List It := [plainI 1 1 0 0 0]

/-- The unit behind the one line. -/
structure NopR (w W : World) (gu mb gp : Nat) : Prop where
  bx : Bx w W
  ur : UR W (gu + 1) gu (.slice none 0 0) 1 (.slice none 0 0) (.map (some mb)) (.pointer (some ⟨gp, 0, none⟩)) (.slice none 0 0) (.slice none 0 0) nopIts
  mp : W.heap[mb]? = some (.map #[] 0)
  po : ∃ f mi, W.heap[gp]? = some (.cells #[.int .i64 f, .slice none 0 0, .map (some mi)] 162 (0, 0))

theorem lbr_nil {W : World} {mb : Nat} (h : W.heap[mb]? = some (.map #[] 0)) : LbR W mb [] := by
  obtain ⟨es, ck, hb, F, hs, hD⟩ := World.ownsMap_made (H := Unit) W Tryz.prog 9 (plainElem Tryz.prog 3)
  have e1 := (heap_alloc_new W (.map #[] 0)).symm.trans hb
  have e2 : es = #[] := by injection e1 with e1; injection e1 with e2 e3; exact e2.symm
  have e3 : ck = 0 := by injection e1 with e1; injection e1 with e2 e3; exact e3.symm
  rw [e2, e3] at F
  rw [e2] at hs hD
  exact ⟨.map [], ⟨#[], 0, h, F, hs, hD⟩, LM.nil⟩

theorem makes_nop (w W1 : World) (gu mb gp mi : Nat) (hL : Isa.Laid w) (hF : FLaid w) (h : Begun w W1 gu mb gp mi) : Makes w gu [(1, [tkNop])] ⟨[0, 9], [], []⟩ W1 := by
  have hB1 := h.bx.bel
  have hguW : gu < W1.heap.size := by obtain ⟨_, _, x1, _⟩ := h.ur.its; exact blk_lt x1
  obtain ⟨g1, g2, g3, g4⟩ := h.ge
  refine ⟨⟨fun k W => (k = 0 ∧ W = W1) ∨ (k = 1 ∧ NopR w W gu mb gp), fun W => NopR w W gu mb gp, fun W' => ∃ W, Told w W W' gu mb [] (fun _ => 0) nopIts [0, 9] [], .inl ⟨rfl, rfl⟩, ?_, ?_, ?_, ?_, ?_⟩⟩
  · rintro k W (⟨rfl, rfl⟩ | ⟨rfl, hn⟩)
    · obtain ⟨_, _, x1, _⟩ := h.ur.its
      exact ⟨h.bx, _, x1, 0, rfl⟩
    · obtain ⟨_, _, x1, _⟩ := hn.ur.its
      exact ⟨hn.bx, _, x1, 1, rfl⟩
  · intro k hk W v hST hv
    have hk0 : k = 0 := by simpa using hk
    subst hk0
    rcases hST with ⟨_, rfl⟩ | ⟨h1, _⟩
    · simp only [List.getElem_cons_zero] at hv ⊢
      obtain ⟨vd, vl, rfl, _⟩ := id hv
      have hU2 := (h.ur.line 1).go (oalloc (W.setCell ⟨gu, 1, none⟩ (.int .i64 1)) (.cells #[.slice vd [tkNop].length vl, .int .i64 1] 137))
      have hB2 : Below w.heap.size w ((W.setCell ⟨gu, 1, none⟩ (.int .i64 1)).alloc (.cells #[.slice vd [tkNop].length vl, .int .i64 1] 137)) := (hB1.setCell (p := ⟨gu, 1, none⟩) (by show w.heap.size ≤ gu; omega) _).alloc (by simpa using hB1.size) _
      have kp : ∀ {q : Nat} {o : Obj}, W.heap[q]? = some o → q ≠ gu → ((W.setCell ⟨gu, 1, none⟩ (.int .i64 1)).alloc (.cells #[.slice vd [tkNop].length vl, .int .i64 1] 137)).heap[q]? = some o := fun {q o} hq hne => by
        rw [old2 _ _ (by simpa using blk_lt hq), Below.heap_setCell _ _ _ _ hne]
        exact hq
      have hbx2 : Bx w ((W.setCell ⟨gu, 1, none⟩ (.int .i64 1)).alloc (.cells #[.slice vd [tkNop].length vl, .int .i64 1] 137)) := ⟨hB2, kp h.bx.x0 (by omega), kp h.bx.x1 (by omega)⟩
      obtain ⟨l1, l2, l3⟩ := h.lt
      have hmp2 := kp h.mp (by omega)
      have hpo2 := kp h.po (by omega)
      generalize (W.setCell ⟨gu, 1, none⟩ (.int .i64 1)).alloc (.cells #[.slice vd [tkNop].length vl, .int .i64 1] 137) = W2 at *
      refine (read_gen gu (.slice vd [tkNop].length vl) 0 ⟨#[110, 111, 112]⟩ [] [] w W2 (fun X => Below W2.heap.size W2 X) (fun X => NopR w X gu mb gp) ?_ (fun A B h1 h2 => h1.trans (h2.mono h1.size)) (fun X hX => hB2.trans (hX.mono hB2.size)) ?_ ?_ ⟨_, _, _, rfl⟩).mono ?_
      · refine (labels_none gu _ [tkNop] W2 (hv.below hB2 (Nat.le_refl _)) rfl).mono ?_
        rintro r w' ⟨rfl, hb⟩
        exact ⟨_, rfl, hv, hb⟩
      · intro X v2 hX hv2
        refine (operands_any gu v2 [] [] X (hv2.below (hB2.trans (hX.mono hB2.size)) (Nat.le_refl _)) (by simp) (by simp [piecesT]) (by intro i hi; simp at hi)).mono ?_
        rintro r w' ⟨⟨ov, rfl, hr⟩, hb⟩
        obtain ⟨oa, oc, hov⟩ := row_shape hr
        subst hov
        exact ⟨⟨oa, oc, rfl, fun h0 => by simp at h0⟩, hb⟩
      · intro X oa oc hX ho
        have hBX := hB2.trans (hX.mono hB2.size)
        refine statement_of gu _ oa 0 oc X _ (by rw [ByteArray.toList_eq]; decide) ?_
        refine (instr_plain gu (gu + 1) _ _ _ _ _ _ 1 [] ⟨#[110, 111, 112]⟩ [] oa oc 1 X (hU2.go hX) (hL.below hBX hL.sz) (hF.below hBX hF.sz) ho (by simp) (by simp) (by simp) (by decide) (by decide) find_nop (by decide) (by kernel_rfl) (by simp)).mono ?_
        rintro r w' ⟨rfl, hu, hf, hk⟩
        have hx0 := (hX.block _ (blk_lt hbx2.x0)).trans hbx2.x0
        have hx1 := (hX.block _ (blk_lt hbx2.x1)).trans hbx2.x1
        refine ⟨rfl, ⟨?_, hk.2 _ _ hx0 (by intro c f e; cases e) (by intro c f e; cases e), hk.2 _ _ hx1 (by intro c f e; cases e) (by intro c f e; cases e)⟩, hu, hk.2 _ _ ((hX.block _ (blk_lt hmp2)).trans hmp2) (by intro c f e; cases e) (by intro c f e; cases e), ⟨0, mi, hk.2 _ _ ((hX.block _ (blk_lt hpo2)).trans hpo2) (by intro c f e; cases e) (by intro c f e; cases e)⟩⟩
        exact hBX.trans ⟨hf.os, hf.tape, hf.output, hf.size, fun i hi => hf.block i (by omega) (by omega)⟩
      · rintro r w' ⟨rfl, hn⟩
        exact ⟨rfl, .inr ⟨trivial, hn⟩⟩
    · omega
  · rintro W (⟨h1, _⟩ | ⟨_, hn⟩)
    · simp at h1
    · obtain ⟨f, mi', hp⟩ := hn.po
      obtain ⟨_, _, x1, _⟩ := hn.ur.its
      refine (endPool_none gu gp none 0 W (blk_cell x1 rfl) (blk_cell hp rfl)).mono ?_
      rintro r w' ⟨rfl, rfl⟩
      exact ⟨rfl, hn⟩
  · intro W hn
    refine (lay_end (w := w) (W := W) (gu := gu) (mb := mb) (labs := []) (firsts := fun _ => 0) (its := nopIts) (code := [0, 9]) (rs := []) ?_).mono ?_
    · refine ⟨hn.bx, g1, ⟨_, _, _, hn.ur, World.ownsRow_nil _ _ _ _⟩, lbr_nil hn.mp, hL.below hn.bx.bel hL.sz, ?_, by simp [nopIts], ?_, ?_, ?_, ⟨by simp, by simp⟩, by simp [labelAt], by simp, by simp⟩
      · have := hL.sz; omega
      · intro i hi
        simp only [nopIts, List.mem_singleton] at hi
        subst hi
        exact ⟨trivial, ⟨by show (0 : Int) ≤ 2; decide, by show (2 : Int) ≤ 6; decide, by show (1 : Int) ≤ 1; decide, by show (1 : Int) ≤ 16; decide⟩, ⟨by show (1 : Int) ≤ 2; decide, by show (2 : Int) ≤ 16; decide⟩, by show (2 : Int) ≤ 4; decide, trivial⟩
      · show (tellU 0 nopIts).getD 1 0 ≤ 8000
        decide
      · kernel_rfl
    · rintro r W' ⟨rfl, ht⟩
      exact ⟨rfl, W, ht⟩
  · rintro W' ⟨W, ht⟩
    exact write_end ht

end Go.Proofs.YtbpoiajpcahdhaaGreatDoor

namespace Go.Proofs.YtbpoiajpcahdhaaGreatDoor
open Go.RowKit Go.Maps Go.MapKept

end Go.Proofs.YtbpoiajpcahdhaaGreatDoor

namespace Go.Proofs.YtbpoiajpcahdhaaGreatDoor
open Go.RowKit Go.Maps Go.MapKept

/-- What lies in memory from the beginning. -/
structure AllLaid (w : World) : Prop where
  isa : Isa.Laid w
  frm : FLaid w
  ex : Xp.KLaid w
  gl : Sc.Glob w

end Go.Proofs.YtbpoiajpcahdhaaGreatDoor

namespace Go.Proofs.YtbpoiajpcahdhaaGreatDoor
open Go.RowKit Go.Maps Go.MapKept

end Go.Proofs.YtbpoiajpcahdhaaGreatDoor

namespace Go.Proofs.YtbpoiajpcahdhaaGreatDoor
open Go.RowKit Go.Maps Go.MapKept

end Go.Proofs.YtbpoiajpcahdhaaGreatDoor

namespace Go.Proofs.YtbpoiajpcahdhaaGreatDoor
open Go.RowKit Go.Maps Go.MapKept

end Go.Proofs.YtbpoiajpcahdhaaGreatDoor

namespace Go.Proofs.YtbpoiajpcahdhaaGreatDoor
open Go.RowKit Go.Maps Go.MapKept

def lnNop : List Sc.Ln := [⟨1, [⟨1, 0, [110, 111, 112]⟩]⟩]
def obNop : Ob := ⟨[0, 9], [], []⟩

end Go.Proofs.YtbpoiajpcahdhaaGreatDoor

namespace Go.Proofs.YtbpoiajpcahdhaaGreatDoor
open Go.RowKit Go.Maps Go.MapKept

def srcNop : List UInt8 := [110, 111, 112]
theorem src_nop : Sc.srcLines srcNop = .ok lnNop := by kernel_rfl
theorem unit_nop (v : Value) (w : World) (hA : AllLaid w) (hv : Sc.BReads w v srcNop) :
    Calls Tryz.prog 56 #[v] w fun r w' => (∃ ca cl cc sa sl sc qa ql qc, r = .returned (.tuple #[.agg #[.slice ca cl cc, .slice sa sl sc, .slice qa ql qc], .agg #[.int .i64 0, .int .i64 0]]) ∧ ObjAt w' (.slice ca cl cc) (.slice sa sl sc) (.slice qa ql qc) obNop) ∧ Below w.heap.size w w' := by
  refine unit_gen v srcNop lnNop obNop w hv src_nop (by decide) ?_ hA.gl ?_
  · intro x hx
    have hin : x = ⟨1, [⟨1, 0, [110, 111, 112]⟩]⟩ := by simpa [lnNop] using hx
    subst hin
    refine ⟨by simp, ?_⟩
    intro q hq
    have e : headS (([⟨1, 0, [110, 111, 112]⟩] : List Sc.Tok).map tkOf) = ⟨#[110, 111, 112]⟩ := rfl
    rw [e, ByteArray.toList_eq]
    revert q
    decide
  · intro u W hb hl
    exact build_gen u [(1, [tkNop])] obNop W hl (by decide) (fun gu mb gp mi W1 h => makes_nop W W1 gu mb gp mi (hA.isa.below hb hA.isa.sz) (hA.frm.below hb hA.frm.sz) h)

end Go.Proofs.YtbpoiajpcahdhaaGreatDoor

namespace Go.Proofs.YtbpoiajpcahdhaaGreatDoor
open Go.RowKit Go.Maps Go.MapKept

end Go.Proofs.YtbpoiajpcahdhaaGreatDoor
