/- asm: the three lines read. asm: the first of the three lines read: a label, and a load off the pool. asm: the unit of the three lines built. asm: the unit of the three lines, from its source. asm: Build of the line 'nop'. pllaw5's alive. asm: the unit of a source of lines of .long. pllaw5.AsmData. -/
import Derived.Test.YtagkmgdjkailkaaGreatDoorPut45
import Derived.Test.YtagkmgdjkailkaaGreatDoorPut27
import Derived.Lib.SmallJoins
import Derived.Test.YtagkmgdjkailkaaGreatDoorDsShelf
import Derived.Lib.ItoaMem
import Derived.Lib.ItoaLen
namespace Go.Proofs.YtagkmgdjkailkaaGreatDoor
open Go.RowKit Go.Maps Go.MapKept

/-- What lies in memory from the beginning. -/
structure AllLaid (w : World) : Prop where
  isa : Isa.Laid w
  frm : FLaid w
  ex : Xp.KLaid w
  gl : Sc.Glob w

theorem read3 (w W : World) (gu mb gp mi : Nat) (v : Value) (hA : AllLaid w) (hge : w.heap.size + 2 ≤ gu) (h : AlR w W gu mb gp mi 3 labsA (its2 gp) true) (hv : PReads w v [tkNop]) :
    Calls Tryz.prog 25 #[.pointer (some ⟨gu, 0, none⟩), v] W fun r w' => r = .returned (.int .i64 0) ∧ AlR w w' gu mb gp mi 3 labsA (its3 gp) true := by
  refine read_gen gu v 0 ⟨#[110, 111, 112]⟩ [] [] w W (fun X => AlR w X gu mb gp mi 3 labsA (its2 gp) true) _ ?_ (fun A B h1 h2 => h1.go h2) (fun X hX => hX.bx.bel) ?_ ?_ (by obtain ⟨a, b, e, _⟩ := hv; exact ⟨_, _, _, e⟩)
  · refine (labels_none gu v [tkNop] W (hv.below h.bx.bel (Nat.le_refl _)) rfl).mono ?_
    rintro r w' ⟨rfl, hb⟩
    exact ⟨v, rfl, hv, h.go hb⟩
  · intro X v2 hX hv2
    refine (operands_any gu v2 [] [] X (hv2.below hX.bx.bel (Nat.le_refl _)) (by simp) (by simp [piecesT]) (by intro i hi; simp at hi)).mono ?_
    rintro r w' ⟨⟨ov, rfl, hr⟩, hb⟩
    obtain ⟨oa, oc, hov⟩ := row_shape hr
    subst hov
    exact ⟨⟨oa, oc, rfl, fun h0 => by simp at h0⟩, hb⟩
  · intro X oa oc hX ho
    obtain ⟨nv, hu, _⟩ := hX.ur
    refine statement_of gu _ oa 0 oc X _ (by rw [ByteArray.toList_eq]; decide) ?_
    refine (instr_plain gu (gu + 1) _ nv _ _ _ _ 3 (its2 gp) ⟨#[110, 111, 112]⟩ [] oa oc 1 X hu (hA.isa.below hX.bx.bel hA.isa.sz) (hA.frm.below hX.bx.bel hA.frm.sz) ho (by simp) (by simp) (by simp) (by decide) (by decide) find_nop (by decide) (by kernel_rfl) (by simp [its2, its1])).mono ?_
    rintro r w' ⟨rfl, hu', hf, hk⟩
    refine ⟨rfl, hX.keep hk hf hge (fun nv' hn => ?_)⟩
    have : nv' = nv := by
      obtain ⟨i1, l1, a1, _⟩ := hn.its
      obtain ⟨i2, l2, a2, _⟩ := hu.its
      have e := a1.symm.trans a2
      injection e with e
      injection e with e _
      have e2 := congrArg (fun a : Array Value => a[2]?) e
      simpa [uC] using e2
    subst this
    exact hu'

theorem read2 (w W : World) (gu mb gp mi : Nat) (v : Value) (hA : AllLaid w) (hge : w.heap.size + 2 ≤ gu) (h : AlR w W gu mb gp mi 2 labsA (its1 gp) true) (hv : PReads w v tk2) :
    Calls Tryz.prog 25 #[.pointer (some ⟨gu, 0, none⟩), v] W fun r w' => r = .returned (.int .i64 0) ∧ AlR w w' gu mb gp mi 2 labsA (its2 gp) true := by
  have hr97 : regU 1 [97] < 0 := by unfold regU; decide
  refine read_gen gu v 0 ⟨#[98, 114, 97]⟩ [tkA] [⟨⟨#[112]⟩, 0, ⟨#[97]⟩, 0⟩] w W (fun X => AlR w X gu mb gp mi 2 labsA (its1 gp) true) _ ?_ (fun A B h1 h2 => h1.go h2) (fun X hX => hX.bx.bel) ?_ ?_ (by obtain ⟨a, b, e, _⟩ := hv; exact ⟨_, _, _, e⟩)
  · refine (labels_none gu v tk2 W (hv.below h.bx.bel (Nat.le_refl _)) rfl).mono ?_
    rintro r w' ⟨rfl, hb⟩
    exact ⟨v, rfl, hv, h.go hb⟩
  · intro X v2 hX hv2
    obtain ⟨nv, hu, _⟩ := hX.ur
    have hpc : piecesT [tkA] = [[tkA]] := pieces_one tkA rfl
    refine (operands_any gu v2 [tkA] [⟨⟨#[112]⟩, 0, ⟨#[97]⟩, 0⟩] X (hv2.below hX.bx.bel (Nat.le_refl _)) (by simp) (by rw [hpc]; rfl) ?_).mono ?_
    · intro i hi u X2 hb2 hu2
      have hi0 : i = 0 := by simp at hi; omega
      subst hi0
      have hu3 : PReads X2 u [tkA] := by simpa [hpc] using hu2
      have hB3 : Below w.heap.size w X2 := hX.bx.bel.trans (hb2.mono hX.bx.bel.size)
      exact operand_atom gu u tkA ⟨#[97]⟩ 0 (.inr ⟨rfl, rfl, rfl, by decide⟩) X2 (KL.below hA.ex hB3) (hA.gl.below hB3 hA.gl.sz) hu3 (hu.go hb2).cell0 hr97
    · rintro r w' ⟨⟨ov, rfl, hr⟩, hb⟩
      obtain ⟨oa, oc, hov⟩ := row_shape hr
      subst hov
      exact ⟨⟨oa, oc, rfl, OpsR.of_row hr⟩, hb⟩
  · intro X oa oc hX ho
    obtain ⟨nv, hu, _⟩ := hX.ur
    refine statement_of gu _ oa 1 oc X _ (by rw [ByteArray.toList_eq]; decide) ?_
    refine (instr_lead gu (gu + 1) _ nv _ _ _ _ 2 (its1 gp) ⟨#[98, 114, 97]⟩ [⟨⟨#[112]⟩, 0, ⟨#[97]⟩, 0⟩] ⟨⟨#[112]⟩, 0, ⟨#[97]⟩, 0⟩ [97] rfl rfl oa oc 19 X hu (hA.isa.below hX.bx.bel hA.isa.sz) (hA.frm.below hX.bx.bel hA.frm.sz) ho (by simp) (by intro o ho; simp at ho; subst ho; rfl) (by intro o ho hk; simp at ho; subst ho; rw [ByteArray.toList_eq] at hk; exact absurd hk (by decide)) (by decide) (by decide) find_bra (by decide) ?_ (by simp [its1])).mono ?_
    · simp only [List.foldl_cons, List.foldl_nil, fillU, ByteArray.toList_eq]
      kernel_rfl
    · rintro r w' ⟨rfl, hu', hf, hk⟩
      refine ⟨rfl, hX.keep hk hf hge (fun nv' hn => ?_)⟩
      have : nv' = nv := by
        obtain ⟨i1, l1, a1, _⟩ := hn.its
        obtain ⟨i2, l2, a2, _⟩ := hu.its
        have e := a1.symm.trans a2
        injection e with e
        injection e with e _
        have e2 := congrArg (fun a : Array Value => a[2]?) e
        simpa [uC] using e2
      subst this
      simp only [List.foldl_cons, List.foldl_nil, fillU, ByteArray.toList_eq] at hu'
      exact hu'

end Go.Proofs.YtagkmgdjkailkaaGreatDoor

namespace Go.Proofs.YtagkmgdjkailkaaGreatDoor
open Go.RowKit Go.Maps Go.MapKept

def opsL : List Opd := [⟨⟨#[61]⟩, 0, ⟨([97] : List UInt8).toArray⟩, 0⟩, ⟨⟨#[114]⟩, 1, ⟨#[]⟩, 0⟩]
theorem pieces_l : piecesT [⟨3, 0, ⟨#[61]⟩⟩, tkA, ⟨3, 0, ⟨#[44]⟩⟩, ⟨1, 0, ⟨#[114, 49]⟩⟩] = [[⟨3, 0, ⟨#[61]⟩⟩, tkA], [⟨1, 0, ⟨#[114, 49]⟩⟩]] := by
  simp [piecesT, splitT, isComma, tkA, ByteArray.toList_eq]
theorem reg1 : regU 1 [114, 49] = 1 := by kernel_rfl

theorem read1 (w W : World) (gu mb gp mi : Nat) (v : Value) (hA : AllLaid w) (hge : w.heap.size + 2 ≤ gu ∧ w.heap.size + 2 ≤ mb ∧ w.heap.size + 2 ≤ gp ∧ w.heap.size + 2 ≤ mi) (hlt : mb < gu ∧ gp < gu ∧ mi < gu) (hne : mi ≠ mb) (h : AlR w W gu mb gp mi 1 [] [] false) (hu : UR W (gu + 1) gu (.slice none 0 0) 1 (.slice none 0 0) (.map (some mb)) (.pointer (some ⟨gp, 0, none⟩)) (.slice none 0 0) (.slice none 0 0) []) (hv : PReads w v tk1) :
    Calls Tryz.prog 25 #[.pointer (some ⟨gu, 0, none⟩), v] W fun r w' => r = .returned (.int .i64 0) ∧ AlR w w' gu mb gp mi 1 labsA (its1 gp) true := by
  obtain ⟨g1, g2, g3, g4⟩ := hge
  have hr97 : regU 1 [97] < 0 := by unfold regU; decide
  refine read_gen gu v 0 ⟨#[109, 111, 118, 46, 108]⟩ [⟨3, 0, ⟨#[61]⟩⟩, tkA, ⟨3, 0, ⟨#[44]⟩⟩, ⟨1, 0, ⟨#[114, 49]⟩⟩] opsL w W (fun X => AlR w X gu mb gp mi 1 labsA [] false) _ ?_ (fun A B h1 h2 => h1.go h2) (fun X hX => hX.bx.bel) ?_ ?_ (by obtain ⟨a, b, e, _⟩ := hv; exact ⟨_, _, _, e⟩)
  · have hp := h.po
    simp only [Bool.false_eq_true, if_false] at hp
    obtain ⟨es0, ck0, hmb, _⟩ : ∃ es ck, W.heap[mb]? = some (.map es ck) ∧ True := by obtain ⟨D, ⟨es, ck, hb, _⟩, _⟩ := h.lb; exact ⟨es, ck, hb, trivial⟩
    refine (labels_one gu (gu + 1) mb 1 _ _ _ _ [] [] [97] 0 0 _ v w W h.bx.bel (by omega) (by omega) hv (by simp [labelled, headT, ByteArray.toList_eq]) hu (World.ownsRow_nil _ _ _ _) h.lb rfl (by simp; decide) (hA.gl.below h.bx.bel hA.gl.sz) hr97 (by decide) (by simp) (by simp)).mono ?_
    rintro r w' ⟨v', nv', rfl, hv', hB, hu', hn', hl', hc⟩
    refine ⟨v', rfl, hv', ⟨⟨hB, ?_, ?_⟩, ⟨nv', hu', hn'⟩, hl', ?_⟩⟩
    · rw [hc.block _ (blk_lt h.bx.x0) (by omega) (by omega) (by simp [Value.ownBlock])]; exact h.bx.x0
    · rw [hc.block _ (blk_lt h.bx.x1) (by omega) (by omega) (by simp [Value.ownBlock])]; exact h.bx.x1
    · simp only [Bool.false_eq_true, if_false]
      have hpm : gp ≠ mb := by rintro rfl; rw [hp.1] at hmb; cases hmb
      have hmm := hne
      exact ⟨by rw [hc.block _ (blk_lt hp.1) (by omega) hpm (by simp [Value.ownBlock])]; exact hp.1, by rw [hc.block _ (blk_lt hp.2) (by omega) hmm (by simp [Value.ownBlock])]; exact hp.2⟩
  · intro X v2 hX hv2
    obtain ⟨nv, hu, _⟩ := hX.ur
    refine (operands_any gu v2 _ opsL X (hv2.below hX.bx.bel (Nat.le_refl _)) (by simp) (by rw [pieces_l]; rfl) ?_).mono ?_
    · intro i hi u X2 hb2 hu2
      have hB3 : Below w.heap.size w X2 := hX.bx.bel.trans (hb2.mono hX.bx.bel.size)
      have hi2 : i = 0 ∨ i = 1 := by simp [opsL] at hi; omega
      rcases hi2 with rfl | rfl
      · have hu3 : PReads X2 u [⟨3, 0, ⟨#[61]⟩⟩, tkA] := by simpa [pieces_l] using hu2
        exact operand_pool gu u 0 tkA ⟨#[97]⟩ 0 (.inr ⟨rfl, rfl, rfl, by decide⟩) X2 (KL.below hA.ex hB3) hu3 (hu.go hb2).cell0
      · have hu3 : PReads X2 u [⟨1, 0, ⟨#[114, 49]⟩⟩] := by simpa [pieces_l] using hu2
        have := operand_reg gu u ⟨1, 0, ⟨#[114, 49]⟩⟩ X2 (hA.gl.below hB3 hA.gl.sz) hu3 rfl (by show 0 ≤ regU 1 [114, 49]; rw [reg1]; decide)
        simp only [reg1] at this
        exact this
    · rintro r w' ⟨⟨ov, rfl, hr⟩, hb⟩
      obtain ⟨oa, oc, hov⟩ := row_shape hr
      subst hov
      exact ⟨⟨oa, oc, rfl, OpsR.of_row hr⟩, hb⟩
  · intro X oa oc hX ho
    obtain ⟨nv, hu, hn⟩ := hX.ur
    have hp := hX.po
    simp only [Bool.false_eq_true, if_false] at hp
    have hsz := hA.isa.sz
    refine statement_of gu _ oa 2 oc X _ (by rw [ByteArray.toList_eq]; decide) ?_
    refine (instr_pool gu (gu + 1) gp mi _ nv _ _ _ 1 0 [] [97] 0 1 oa oc X hu (hA.isa.below hX.bx.bel hA.isa.sz) ho hp.1 hp.2 (by simp) (by omega) (by omega)).mono ?_
    rintro r w' ⟨rfl, hu', ⟨va, vc, p1, p2⟩, ⟨o1, o2, o3, o4⟩, hsz', hk⟩
    have hBX := hX.bx.bel
    have nc : ∀ {c : Array Value} {t : TypeId}, t ≠ 79 → ∀ c' f', Obj.cells c t (0, 0) ≠ .cells c' 79 f' := fun ht c' f' e => by injection e with _ e3; exact ht e3
    have ni : ∀ {c : Array Value} {t : TypeId}, t ≠ 131 → ∀ c' f', Obj.cells c t (0, 0) ≠ .cells c' 131 f' := fun ht c' f' e => by injection e with _ e3; exact ht e3
    obtain ⟨iv, il, x1, x2, _⟩ := id hu.its
    refine ⟨rfl, ⟨⟨⟨o1.trans hBX.os, o2.trans hBX.tape, o3.trans hBX.output, Nat.le_trans hBX.size hsz', fun i hi => ?_⟩, hk _ _ hX.bx.x0 (nc (by decide)) (ni (by decide)) (by omega) (by omega), hk _ _ hX.bx.x1 (nc (by decide)) (ni (by decide)) (by omega) (by omega)⟩, ⟨nv, hu', ?_⟩, ?_, ?_⟩⟩
    · rw [o4 i (by omega) (by omega) (by omega) (by omega)]
      exact hBX.block i hi
    · refine ⟨hn.1, ?_⟩
      rcases hn.2 with h5 | ⟨q, cap, cur, h5, h6, h7, h8⟩
      · exact .inl h5
      · exact .inr ⟨q, cap, cur, h5, h6, hk _ _ h7 (nc (by decide)) (ni (by decide)) (by rintro rfl; rw [hp.1] at h7; injection h7 with h7; injection h7 with _ e3; exact absurd e3 (by decide)) (by rintro rfl; rw [hp.2] at h7; cases h7), h8⟩
    · obtain ⟨D, ⟨es, ck, hb, F⟩, hd⟩ := hX.lb
      exact ⟨D, ⟨es, ck, hk _ _ hb (by intro c f e; cases e) (by intro c f e; cases e) (by rintro rfl; rw [hp.1] at hb; cases hb) (Ne.symm hne), F⟩, hd⟩
    · simp only [if_true]
      exact ⟨va, vc, _, p1, p2⟩

end Go.Proofs.YtagkmgdjkailkaaGreatDoor

namespace Go.Proofs.YtagkmgdjkailkaaGreatDoor
open Go.RowKit Go.Maps Go.MapKept

def its5 (gp : Nat) : List It := its3 gp ++ [fillI 3 4, numI 3 4 [97] 0]
def codeA : List UInt8 := [209, 1, 175, 253, 0, 9, 0, 0, 0, 0, 0, 0]
def relA : List Re := [⟨8, 4, [], 0⟩]
theorem wr_alive (gp : Nat) : writeU ⟨labsA, its5 gp, fun _ => 4⟩ (tellU 0 (its5 gp)) 0 [] [] (its5 gp) = .ok (codeA, relA) := by kernel_rfl
theorem last_alive (gp : Nat) : (tellU 0 (its5 gp)).getD (its5 gp).length 0 ≤ 8000 := by
  have : (tellU 0 (its5 gp)).getD (its5 gp).length 0 = 12 := by kernel_rfl
  omega
def lsA : List (Int × List Tk) := [(1, tk1), (2, tk2), (3, [tkNop])]
def obA : Ob := ⟨codeA, [⟨[97], 0⟩], relA⟩

theorem Begun.al {w W : World} {gu mb gp mi : Nat} (h : Begun w W gu mb gp mi) : AlR w W gu mb gp mi 0 [] [] false :=
  ⟨h.bx, ⟨_, h.ur, World.ownsRow_nil _ _ _ _⟩, lbr_nil h.mp, by simp only [Bool.false_eq_true, if_false]; exact ⟨h.po, h.mq⟩⟩

/-- Lines read and the pool laid. -/
structure AlE (w W : World) (gu mb gp : Nat) : Prop where
  bx : Bx w W
  ur : ∃ nv pp, UR W (gu + 1) gu (.slice none 0 0) 3 nv (.map (some mb)) pp (.slice none 0 0) (.slice none 0 0) (its5 gp) ∧ W.ownsRow (gu + 1) 9 1 nv labsA.length (nameC labsA)
  lb : LbR W mb labsA
  po : ∃ vv mv, W.heap[gp]? = some (.cells #[.int .i64 ((4 : Nat) : Int), vv, mv] 116 (0, 0))

theorem end_alive (w W : World) (gu mb gp mi : Nat) (hge : w.heap.size + 2 ≤ gu ∧ w.heap.size + 2 ≤ mb ∧ w.heap.size + 2 ≤ gp ∧ w.heap.size + 2 ≤ mi) (h : AlR w W gu mb gp mi 3 labsA (its3 gp) true) :
    Calls Tryz.prog 26 #[.pointer (some ⟨gu, 0, none⟩)] W fun r w' => r = .returned (.tuple #[]) ∧ AlE w w' gu mb gp := by
  obtain ⟨g1, g2, g3, g4⟩ := hge
  obtain ⟨nv, hu, hn⟩ := h.ur
  have hp := h.po
  simp only [if_true] at hp
  obtain ⟨va, vc, b0, p1, p2⟩ := hp
  refine (endPool_one gu (gu + 1) gp mi _ nv _ _ _ 3 0 (its3 gp) [97] 0 va vc b0 W hu p1 p2 (by simp [its3, its2, its1])).mono ?_
  rintro r w' ⟨rfl, ⟨gp', hu'⟩, hp', ⟨o1, o2, o3, o4⟩, hsz, hk⟩
  have hBX := h.bx.bel
  have nc : ∀ {c : Array Value} {t : TypeId}, t ≠ 79 → ∀ c' f', Obj.cells c t (0, 0) ≠ .cells c' 79 f' := fun ht c' f' e => by injection e with _ e3; exact ht e3
  have ni : ∀ {c : Array Value} {t : TypeId}, t ≠ 131 → ∀ c' f', Obj.cells c t (0, 0) ≠ .cells c' 131 f' := fun ht c' f' e => by injection e with _ e3; exact ht e3
  refine ⟨rfl, ⟨⟨o1.trans hBX.os, o2.trans hBX.tape, o3.trans hBX.output, Nat.le_trans hBX.size hsz, fun i hi => ?_⟩, hk _ _ h.bx.x0 (nc (by decide)) (ni (by decide)) (by omega), hk _ _ h.bx.x1 (nc (by decide)) (ni (by decide)) (by omega)⟩, ⟨nv, _, hu', ?_⟩, ?_, ⟨_, _, hp'⟩⟩
  · rw [o4 i (by omega) (by omega) (by omega)]
    exact hBX.block i hi
  · refine ⟨hn.1, ?_⟩
    rcases hn.2 with h5 | ⟨q, cap, cur, h5, h6, h7, h8⟩
    · exact .inl h5
    · exact .inr ⟨q, cap, cur, h5, h6, hk _ _ h7 (nc (by decide)) (ni (by decide)) (by rintro rfl; rw [p1] at h7; injection h7 with h7; injection h7 with _ e3; exact absurd e3 (by decide)), h8⟩
  · obtain ⟨D, ⟨es, ck, hb, F⟩, hd⟩ := h.lb
    exact ⟨D, ⟨es, ck, hk _ _ hb (by intro c f e; cases e) (by intro c f e; cases e) (by rintro rfl; rw [p1] at hb; cases hb), F⟩, hd⟩

theorem makes_alive (w W1 : World) (gu mb gp mi : Nat) (hA : AllLaid w) (h : Begun w W1 gu mb gp mi) : Makes w gu lsA obA W1 := by
  have hge := h.ge
  have hsz := hA.isa.sz
  refine ⟨⟨fun k W => (k = 0 ∧ W = W1) ∨ (k = 1 ∧ AlR w W gu mb gp mi 1 labsA (its1 gp) true) ∨ (k = 2 ∧ AlR w W gu mb gp mi 2 labsA (its2 gp) true) ∨ (k = 3 ∧ AlR w W gu mb gp mi 3 labsA (its3 gp) true), fun W => AlE w W gu mb gp, fun W' => ∃ W, Told w W W' gu mb labsA (fun _ => 4) (its5 gp) codeA relA, .inl ⟨rfl, rfl⟩, ?_, ?_, ?_, ?_, ?_⟩⟩
  · have key : ∀ {W : World} {ln : Int} {its : List It}, AlR w W gu mb gp mi ln labsA its true → Bx w W ∧ ∃ c, W.heap[gu]? = some (.cells c 79 (0, 0)) ∧ (∃ z, c[1]? = some (.int .i64 z)) := fun {W ln its} hn => by
      obtain ⟨nv, hu, _⟩ := hn.ur
      obtain ⟨_, _, x1, _⟩ := hu.its
      exact ⟨hn.bx, _, x1, ln, rfl⟩
    rintro k W (⟨rfl, rfl⟩ | ⟨rfl, hn⟩ | ⟨rfl, hn⟩ | ⟨rfl, hn⟩)
    · obtain ⟨_, _, x1, _⟩ := h.ur.its
      exact ⟨h.bx, _, x1, 0, rfl⟩
    · exact key hn
    · exact key hn
    · exact key hn
  · intro k hk W v hST hv
    rcases hST with ⟨rfl, rfl⟩ | ⟨rfl, hn⟩ | ⟨rfl, hn⟩ | ⟨rfl, hn⟩
    · refine (read1 w _ gu mb gp mi v hA hge h.lt h.ne (h.al.line hge.1 1 _) ((h.ur.line 1).go (oalloc _ _)) hv).mono ?_
      rintro r w' ⟨rfl, hr⟩
      exact ⟨rfl, .inr (.inl ⟨rfl, hr⟩)⟩
    · refine (read2 w _ gu mb gp mi v hA hge.1 (hn.line hge.1 2 _) hv).mono ?_
      rintro r w' ⟨rfl, hr⟩
      exact ⟨rfl, .inr (.inr (.inl ⟨rfl, hr⟩))⟩
    · refine (read3 w _ gu mb gp mi v hA hge.1 (hn.line hge.1 3 _) hv).mono ?_
      rintro r w' ⟨rfl, hr⟩
      exact ⟨rfl, .inr (.inr (.inr ⟨rfl, hr⟩))⟩
    · simp [lsA] at hk
  · rintro W (⟨h1, _⟩ | ⟨h1, _⟩ | ⟨h1, _⟩ | ⟨_, hn⟩)
    · simp [lsA] at h1
    · simp [lsA] at h1
    · simp [lsA] at h1
    · exact end_alive w W gu mb gp mi hge hn
  · intro W hn
    obtain ⟨vv, mv, hpo⟩ := hn.po
    obtain ⟨nv, pp, hu, hnv⟩ := hn.ur
    refine (lay_end (w := w) (W := W) (gu := gu) (mb := mb) (labs := labsA) (firsts := fun _ => 4) (its := its5 gp) (code := codeA) (rs := relA) ?_).mono ?_
    · refine ⟨hn.bx, hge.1, ⟨3, nv, pp, hu, hnv⟩, hn.lb, hA.isa.below hn.bx.bel hA.isa.sz, by omega, by simp [its5, its3, its2, its1], ?_, last_alive gp, wr_alive gp, ⟨by decide, by decide⟩, ?_, ?_, by decide⟩
      · intro i hi
        have hin : i = leadI 1 24 1 0 0 (.slot gp 0) ∨ i = leadI 2 19 0 0 0 (.val [97] 0) ∨ i = plainI 3 1 0 0 0 ∨ i = fillI 3 4 ∨ i = numI 3 4 [97] 0 := by simpa [its5, its3, its2, its1] using hi
        have hlen : (its5 gp).length = 5 := rfl
        rw [hlen]
        rcases hin with rfl | rfl | rfl | rfl | rfl
        · exact ⟨by show Isa.infoShape 24 ≠ 4; decide, ⟨by show (0 : Int) ≤ 2; decide, by show (2 : Int) ≤ 6; decide, by show (1 : Int) ≤ 1; decide, by show (1 : Int) ≤ 16; decide⟩, ⟨by show (1 : Int) ≤ 2; decide, by show (2 : Int) ≤ 16; decide⟩, by show (2 : Int) ≤ 4; decide, rfl, rfl, by show 4 + 0 ≤ 5; decide, vv, mv, hpo⟩
        · exact ⟨by show Isa.infoShape 19 ≠ 4; decide, ⟨by decide, by decide, by decide, by decide⟩, ⟨by decide, by decide⟩, by decide, rfl, rfl, by decide, by decide, by decide⟩
        · exact ⟨trivial, ⟨by decide, by decide, by decide, by decide⟩, ⟨by decide, by decide⟩, by decide, trivial⟩
        · exact ⟨trivial, ⟨by decide, by decide, by decide, by decide⟩, ⟨by decide, by decide⟩, by decide, trivial⟩
        · exact ⟨trivial, ⟨by decide, by decide, by decide, by decide⟩, ⟨by decide, by decide⟩, by decide, .inr (.inr rfl), rfl, by decide, by decide, by decide⟩
      · intro nm k hk
        unfold labsA labelAt at hk
        split at hk
        · injection hk with hk; omega
        · simp [labelAt] at hk
      · intro j hj
        have : j = 0 := by simp [labsA] at hj; omega
        subst this
        exact ⟨by show labelAt [97] labsA = some 0; decide, by show (1 : Nat) ≤ maxLen; decide⟩
    · rintro r W' ⟨rfl, ht⟩
      exact ⟨rfl, W, ht⟩
  · rintro W' ⟨W, ht⟩
    exact write_end ht

end Go.Proofs.YtagkmgdjkailkaaGreatDoor

namespace Go.Proofs.YtagkmgdjkailkaaGreatDoor
open Go.RowKit Go.Maps Go.MapKept

def srcA : List UInt8 := [97, 58, 32, 109, 111, 118, 46, 108, 32, 61, 97, 44, 114, 49, 10, 98, 114, 97, 32, 97, 10, 110, 111, 112]
def lnsA : List Sc.Ln := [⟨1, [⟨1, 0, [97]⟩, ⟨3, 0, [58]⟩, ⟨1, 0, [109, 111, 118, 46, 108]⟩, ⟨3, 0, [61]⟩, ⟨1, 0, [97]⟩, ⟨3, 0, [44]⟩, ⟨1, 0, [114, 49]⟩]⟩, ⟨2, [⟨1, 0, [98, 114, 97]⟩, ⟨1, 0, [97]⟩]⟩, ⟨3, [⟨1, 0, [110, 111, 112]⟩]⟩]
theorem src_alive : Sc.srcLines srcA = .ok lnsA := by kernel_rfl
theorem lns_alive : lnsA.map lnOf = lsA := rfl

theorem unit_alive (v : Value) (w : World) (hA : AllLaid w) (hv : Sc.BReads w v srcA) :
    Calls Tryz.prog 7 #[v] w fun r w' => (∃ ca cl cc sa sl sc qa ql qc, r = .returned (.tuple #[.agg #[.slice ca cl cc, .slice sa sl sc, .slice qa ql qc], .agg #[.int .i64 0, .int .i64 0]]) ∧ ObjAt w' (.slice ca cl cc) (.slice sa sl sc) (.slice qa ql qc) obA) ∧ Below w.heap.size w w' := by
  refine unit_gen v srcA lnsA obA w hv src_alive (by decide) ?_ hA.gl ?_
  · intro x hx
    have hin : x = ⟨1, [⟨1, 0, [97]⟩, ⟨3, 0, [58]⟩, ⟨1, 0, [109, 111, 118, 46, 108]⟩, ⟨3, 0, [61]⟩, ⟨1, 0, [97]⟩, ⟨3, 0, [44]⟩, ⟨1, 0, [114, 49]⟩]⟩ ∨ x = ⟨2, [⟨1, 0, [98, 114, 97]⟩, ⟨1, 0, [97]⟩]⟩ ∨ x = ⟨3, [⟨1, 0, [110, 111, 112]⟩]⟩ := by simpa [lnsA] using hx
    rcases hin with rfl | rfl | rfl
    · refine ⟨by simp, ?_⟩
      intro q hq
      have e : headS (([⟨1, 0, [97]⟩, ⟨3, 0, [58]⟩, ⟨1, 0, [109, 111, 118, 46, 108]⟩, ⟨3, 0, [61]⟩, ⟨1, 0, [97]⟩, ⟨3, 0, [44]⟩, ⟨1, 0, [114, 49]⟩] : List Sc.Tok).map tkOf) = ⟨#[97]⟩ := rfl
      rw [e, ByteArray.toList_eq]
      revert q
      decide
    · refine ⟨by simp, ?_⟩
      intro q hq
      have e : headS (([⟨1, 0, [98, 114, 97]⟩, ⟨1, 0, [97]⟩] : List Sc.Tok).map tkOf) = ⟨#[98, 114, 97]⟩ := rfl
      rw [e, ByteArray.toList_eq]
      revert q
      decide
    · refine ⟨by simp, ?_⟩
      intro q hq
      have e : headS (([⟨1, 0, [110, 111, 112]⟩] : List Sc.Tok).map tkOf) = ⟨#[110, 111, 112]⟩ := rfl
      rw [e, ByteArray.toList_eq]
      revert q
      decide
  · intro u W hb hl
    rw [lns_alive] at hl
    have hAW : AllLaid W := ⟨hA.isa.below hb hA.isa.sz, hA.frm.below hb hA.frm.sz, KL.below hA.ex hb, hA.gl.below hb hA.gl.sz⟩
    exact build_gen u lsA obA W hl (by decide) (fun gu mb gp mi W1 h => makes_alive W W1 gu mb gp mi hAW h)

end Go.Proofs.YtagkmgdjkailkaaGreatDoor

namespace Go.Proofs.YtagkmgdjkailkaaGreatDoor
open Go.RowKit Go.Maps Go.MapKept

def lnNop : List Sc.Ln := [⟨1, [⟨1, 0, [110, 111, 112]⟩]⟩]
def obNop : Ob := ⟨[0, 9], [], []⟩

theorem rd_lrd {w W : World} {ls : List Sc.Ln} {f : Nat → Value × Int} (h : RdAt w W ls.length ls ls.length f) (hm : ls.length ≤ maxLen) : LRd W (.slice (some ⟨w.heap.size, 0, none⟩) ls.length ls.length) (ls.map lnOf) := by
  obtain ⟨hr, hl, _⟩ := h
  refine ⟨_, _, by rw [List.length_map], by simpa using hm, fun h0 => ⟨w.heap.size, 0, rfl, hr.lt, fun i hi => ?_⟩⟩
  have hi' : i < ls.length := by simpa using hi
  obtain ⟨h1, h2, _⟩ := hl i hi' hi'
  obtain ⟨td, tn, tc, e⟩ := h2.shape
  have c0 := hr.cell0 hi'
  have c1 := hr.cell1 hi'
  rw [e] at c0 h2
  simp only [List.getElem_map, lnOf]
  exact ⟨td, tn, tc, by simpa using c0, by rw [← h1]; simpa using c1, h2⟩

set_option maxHeartbeats 4000000 in
theorem build_nop (v : Value) (w : World) (hA : AllLaid w) (hv : LIn w v lnNop) :
    Calls Tryz.prog 11 #[v, .slice none 0 0] w fun r w' => (∃ ca cl cc sa sl sc qa ql qc, r = .returned (.tuple #[.agg #[.slice ca cl cc, .slice sa sl sc, .slice qa ql qc], .agg #[.int .i64 0, .int .i64 0]]) ∧ ObjAt w' (.slice ca cl cc) (.slice sa sl sc) (.slice qa ql qc) obNop) ∧ Below w.heap.size w w' := by
  have HRD := Lib.hid fun W (hb : Below w.heap.size w W) => read_any v lnNop W (by
    obtain ⟨ad', cap', e, hh⟩ := hv
    refine ⟨ad', cap', e, fun h0 => ?_⟩
    obtain ⟨b, o, rfl, hlt, hc⟩ := hh h0
    refine ⟨b, o, rfl, Nat.lt_of_lt_of_le hlt hb.size, fun i hi => ?_⟩
    obtain ⟨tv, a1, a2, a3⟩ := hc i hi
    exact ⟨tv, by rw [hb.cell (by exact hlt)]; exact a1, by rw [hb.cell (by exact hlt)]; exact a2, a3.below hb (Nat.le_refl _)⟩) (by decide) (by intro l hl; simp [lnNop] at hl; subst hl; simp)
  have HBD := Lib.hid fun u W (hb : Below w.heap.size w W) (hl : LRd W u (lnNop.map lnOf)) => build_gen u [(1, [tkNop])] obNop W hl (by decide) (fun gu mb gp mi W1 h => makes_nop W W1 gu mb gp mi (hA.isa.below hb hA.isa.sz) (hA.frm.below hb hA.frm.sz) h)
  obtain ⟨va, vc, rfl, _⟩ := hv
  clear hA
  go_enter Tryz.func11, Tryz.ntmps11
  go_wp2_with fail
  refine (HRD.out _ (by go_grown)).mono ?_
  rintro e w1 ⟨rfl, ⟨f, hf⟩, hb1⟩
  have hl1 := rd_lrd hf (by decide)
  have hB1 : Below w.heap.size w w1 := Below.trans (by go_grown) (hb1.mono (by go_size))
  have x0 : w1.heap[w.heap.size]? = some (.cells #[.slice none 0 0, .slice none 0 0, .slice none 0 0] 28 (0, 0)) := by rw [hb1.block _ (by go_size), old2 _ _ (by go_size)]; exact new_at _ _ rfl
  have x1 : w1.heap[w.heap.size + 1]? = some (.cells #[.int .i64 0, .int .i64 0] 31 (0, 0)) := by rw [hb1.block _ (by go_size)]; exact new_at _ _ (by go_size)
  have hl2 : LRd w1 (.slice (some ⟨w.heap.size + 1 + 1, 0, none⟩) lnNop.length lnNop.length) (lnNop.map lnOf) := by simpa using hl1
  have HC := Lib.hid (HBD.out _ w1 hB1 hl2)
  have HB1 := Lib.hid hB1
  have X0 := Lib.hid x0
  have X1 := Lib.hid x1
  clear hf hb1 hl1 hl2 hB1 x0 x1 HRD HBD
  go_wp2_with fail
  refine HC.out.mono ?_
  rintro e w6 ⟨⟨ca, cl, cc, sa, sl, sc, qa, ql, qc, rfl, hob⟩, hb6⟩
  have z0 := (hb6.block _ (blk_lt X0.out)).trans X0.out
  have z1 := (hb6.block _ (blk_lt X1.out)).trans X1.out
  have g0 : w6.cell? ⟨w.heap.size, 0, none⟩ = some (.slice none 0 0) := blk_cell z0 rfl
  have g1 : w6.cell? ⟨w.heap.size, 1, none⟩ = some (.slice none 0 0) := blk_cell z0 rfl
  have g2 : w6.cell? ⟨w.heap.size, 2, none⟩ = some (.slice none 0 0) := blk_cell z0 rfl
  have q0 : w6.frozen? ⟨w.heap.size, 0, none⟩ = false := blk_froz z0
  have q1 : w6.frozen? ⟨w.heap.size, 1, none⟩ = false := blk_froz z0
  have q2 : w6.frozen? ⟨w.heap.size, 2, none⟩ = false := blk_froz z0
  obtain ⟨⟨v0, v1⟩, t0, t1⟩ := var2_of z1
  have HOB := Lib.hid hob
  have HB6 := Lib.hid (HB1.out.trans (hb6.mono HB1.out.size))
  have Z0 := Lib.hid z0
  have Z1 := Lib.hid z1
  have zz := blk_lt z1
  clear hob hb6 z0 z1 HC
  go_wp2_with fail
  have n3 : ∀ (x y z : Option Addr) (a b c d e f : Nat) (j : Nat) (n : Int), (#[Value.slice x a b, .slice y c d, .slice z e f] : Array Value)[j]? ≠ some (.int .u8 n) := by
    intro x y z a b c d e f j n h
    rcases j with _ | _ | _ | j <;> simp at h
  have m3 : ∀ (x y z : Option Addr) (a b c d e f : Nat) (j : Nat) (n : ByteArray), (#[Value.slice x a b, .slice y c d, .slice z e f] : Array Value)[j]? ≠ some (.string n) := by
    intro x y z a b c d e f j n h
    rcases j with _ | _ | _ | j <;> simp at h
  have n2 : ∀ (a b : Int) (j : Nat) (n : Int), (#[Value.int .i64 a, .int .i64 b] : Array Value)[j]? ≠ some (.int .u8 n) := by
    intro a b j n h
    rcases j with _ | _ | j <;> simp at h
  have m2 : ∀ (a b : Int) (j : Nat) (n : ByteArray), (#[Value.int .i64 a, .int .i64 b] : Array Value)[j]? ≠ some (.string n) := by
    intro a b j n h
    rcases j with _ | _ | j <;> simp at h
  have o1 := HOB.out.set (i := 0) (v := .slice ca cl cc) Z0.out (m3 _ _ _ _ _ _ _ _ _) (n3 _ _ _ _ _ _ _ _ _)
  have z1 := blk_set (i := 0) (v := .slice ca cl cc) Z0.out
  have o2 := o1.set (i := 1) (v := .slice sa sl sc) z1 (m3 _ _ _ _ _ _ _ _ _) (n3 _ _ _ _ _ _ _ _ _)
  have z2 := blk_set (i := 1) (v := .slice sa sl sc) z1
  have o3 := o2.set (i := 2) (v := .slice qa ql qc) z2 (m3 _ _ _ _ _ _ _ _ _) (n3 _ _ _ _ _ _ _ _ _)
  have Z1b : (((w6.setCell ⟨w.heap.size, 0, none⟩ (.slice ca cl cc)).setCell ⟨w.heap.size, 1, none⟩ (.slice sa sl sc)).setCell ⟨w.heap.size, 2, none⟩ (.slice qa ql qc)).heap[w.heap.size + 1]? = some (.cells #[.int .i64 0, .int .i64 0] 31 (0, 0)) := by
    rw [Below.heap_setCell _ _ _ _ (by show w.heap.size + 1 ≠ w.heap.size; omega), Below.heap_setCell _ _ _ _ (by show w.heap.size + 1 ≠ w.heap.size; omega), Below.heap_setCell _ _ _ _ (by show w.heap.size + 1 ≠ w.heap.size; omega)]
    exact Z1.out
  have o4 := o3.set (i := 0) (v := .int .i64 0) Z1b (m2 _ _) (n2 _ _)
  have o5 := o4.set (i := 1) (v := .int .i64 0) (blk_set (i := 0) (v := .int .i64 0) Z1b) (m2 _ _) (n2 _ _)
  exact bodyPost_ret (v := .tuple #[.agg #[.slice ca cl cc, .slice sa sl sc, .slice qa ql qc], .agg #[.int .i64 0, .int .i64 0]]) (by simp [results, Tryz.results11, go_sem, g0, g1, g2, v0, v1]) rfl ⟨⟨ca, cl, cc, sa, sl, sc, qa, ql, qc, rfl, o5⟩, ((((HB6.out.setCell (Nat.le_refl _) _).setCell (Nat.le_refl _) _).setCell (Nat.le_refl _) _).setCell (Nat.le_succ _) _).setCell (Nat.le_succ _) _⟩


end Go.Proofs.YtagkmgdjkailkaaGreatDoor

namespace Go.Proofs.YtagkmgdjkailkaaGreatDoor
open Go.RowKit Go.Maps Go.MapKept

def bC (l : List UInt8) : Array Value := (l.map fun c => (.int .u8 (c.toNat : Int) : Value)).toArray
def srcN : List UInt8 := [110, 111, 112]
theorem src_nop : Sc.srcLines srcN = .ok lnNop := by kernel_rfl

/-- Bytes that lie in a new block. -/
theorem reads_lit (l : List UInt8) (W : World) (g : Nat) (C : Array Value) (f : Nat × Nat) (hC : C = bC l) (h : W.heap[g]? = some (.cells C 5 f)) (hl : l.length ≤ 1000) : Sc.BReads W (.slice (some ⟨g, 0, none⟩) l.length l.length) l := by
  subst hC
  refine ⟨_, _, rfl, by unfold maxLen; omega, fun _ => ⟨g, 0, rfl, blk_lt h, fun i hi => ?_⟩⟩
  have : (bC l)[0 + i]? = some (.int .u8 (l[i].toNat : Int)) := by simp [bC, hi]
  simp only [World.cell?, h]
  simpa using this

set_option maxHeartbeats 8000000 in
set_option maxRecDepth 100000 in
theorem alive_any (w : World) (hA : AllLaid w) :
    Calls Tryz.prog 5 #[] w fun e w' => e = .returned (.bool true) ∧ Below w.heap.size w w' := by
  have kc := fun (w : World) (C : Array Value) (n c : Nat) => Lib.run_convert_bytes_const (P := Tryz.prog) w 24 5 C n c Tryz.underlying24 Tryz.underlying5
  have HUN := Lib.hid fun v W (hb : Below w.heap.size w W) (hv : Sc.BReads W v srcA) => unit_alive v W ⟨hA.isa.below hb hA.isa.sz, hA.frm.below hb hA.frm.sz, KL.below hA.ex hb, hA.gl.below hb hA.gl.sz⟩ hv
  have HBN := Lib.hid fun v W (hb : Below w.heap.size w W) (hv : LIn W v lnNop) => build_nop v W ⟨hA.isa.below hb hA.isa.sz, hA.frm.below hb hA.frm.sz, KL.below hA.ex hb, hA.gl.below hb hA.gl.sz⟩ hv
  clear hA
  go_enter Tryz.func5, Tryz.ntmps5
  go_wp2_with fail
  have hb0 : ∀ (o : Obj), Below w.heap.size w (w.alloc o) := fun o => oalloc w o
  refine (HUN.out _ _ (hb0 _) (reads_lit srcA _ w.heap.size _ _ rfl (new_at _ _ rfl) (by decide))).mono ?_
  rintro e w1 ⟨⟨ca, cl, cc, sa, sl, sc, qa, ql, qc, rfl, hob⟩, hb1⟩
  obtain ⟨hc1, hc2, hc3⟩ := hob
  obtain ⟨ad1, cp1, e1, _⟩ := id hc1
  injection e1 with e1a e1 e1c
  obtain ⟨ad2, cp2, e2, _⟩ := id hc2
  injection e2 with e2a e2 e2c
  obtain ⟨ad3, cp3, e3, _, hr3⟩ := id hc3
  injection e3 with e3a e3 e3c
  subst e1 e2 e3 e1a e1c e2a e2c e3a e3c
  obtain ⟨rb, ro, rfl, hrlt, hrc⟩ := hr3 (by decide)
  obtain ⟨r0, r1, r2, r3⟩ := hrc 0 (by decide)
  simp only [show obA.code.length = 12 from rfl, show obA.syms.length = 1 from rfl, show obA.rels.length = 1 from rfl, Nat.zero_mul, Nat.add_zero, show (obA.rels[0]'(by decide)).pos = 8 from rfl, show (obA.rels[0]'(by decide)).size = 4 from rfl, show (obA.rels[0]'(by decide)).name = [] from rfl, show (obA.rels[0]'(by decide)).add = 0 from rfl] at r0 r1 r2 r3 ⊢
  have HB1 : Hid (Below w.heap.size w w1) := (hb0 _).trans (hb1.mono (by simp))
  have kc2 : ∀ A B : Obj, (convert 24 24 (.slice (some ⟨w1.heap.size + 1 + 1, 0, none⟩) 3 3)).run Tryz.prog (((w1.alloc A).alloc B).alloc (.cells #[.int .u8 110, .int .u8 111, .int .u8 112] 5)) = .ok (.slice (some ⟨w1.heap.size + 1 + 1, 0, none⟩) 3 3) (((w1.alloc A).alloc B).alloc (.cells #[.int .u8 110, .int .u8 111, .int .u8 112] 5 (3, 4))) := fun A B => by
    have := Lib.run_convert_bytes_const (P := Tryz.prog) ((w1.alloc A).alloc B) 24 5 #[.int .u8 110, .int .u8 111, .int .u8 112] 3 3 Tryz.underlying24 Tryz.underlying5
    simpa using this
  clear hb1 hc1 hc2 hc3 hrc hr3 HUN hb0 kc
  go_wp2_with fail
  clear kc2
  obtain ⟨hs1, hs2, hs3⟩ := Sc.src_ok src_nop
  refine (Sc.rlines_any (some ⟨w1.heap.size + 1 + 1, 0, none⟩) 3 srcN _ (reads_lit srcN _ (w1.heap.size + 1 + 1) _ _ rfl (new_at _ _ (by simp)) (by decide)) (by decide)).mono ?_
  rintro e w2 ⟨⟨lv, ps, rfl, hps, hlo⟩, hb2⟩
  rw [hs1, hs2]
  rw [hs3] at hps
  have hlin := lin_of hlo
  rw [hps] at hlin
  obtain ⟨la, lc, hlv⟩ := row_shape hlo.row
  subst hlv
  have hpl : ps.length = 1 := by have := congrArg List.length hps; simpa [lnNop] using this
  have hB2 : Below w1.heap.size w1 w2 := Below.trans (by go_grown) (hb2.mono (by go_size))
  have x0 : w2.heap[w1.heap.size]? = some (.cells #[.slice ca 12 cc, .slice sa 1 sc, .slice (some ⟨rb, ro, none⟩) 1 qc] 28 (0, 0)) := by rw [hb2.block _ (by go_size), old2 _ _ (by go_size), old2 _ _ (by go_size)]; exact new_at _ _ rfl
  have x1 : w2.heap[w1.heap.size + 1]? = some (.cells #[.int .i64 0, .int .i64 0] 31 (0, 0)) := by rw [hb2.block _ (by go_size), old2 _ _ (by go_size)]; exact new_at _ _ (by go_size)
  have HB2 := Lib.hid hB2
  have X0 := Lib.hid x0
  have X1 := Lib.hid x1
  have HLI := Lib.hid hlin
  rw [hpl]
  rw [hpl] at HLI
  clear hb2 hB2 x0 x1 hlo hps hlin hs1 hs2 hs3
  go_wp2_with fail
  have hB3 : Below w.heap.size w (w2.alloc (.cells #[.int .i64 0, .int .i64 0] 31)) := (HB1.out.trans (HB2.out.mono HB1.out.size)).alloc (Nat.le_trans HB1.out.size HB2.out.size) _
  have hli3 : LIn (w2.alloc (.cells #[.int .i64 0, .int .i64 0] 31)) (.slice la 1 lc) lnNop := by
    have hb : Below w2.heap.size w2 (w2.alloc (.cells #[.int .i64 0, .int .i64 0] 31)) := oalloc _ _
    obtain ⟨ad', cap', e, hh⟩ := HLI.out
    refine ⟨ad', cap', e, fun h0 => ?_⟩
    obtain ⟨b, o, rfl, hlt, hc⟩ := hh h0
    refine ⟨b, o, rfl, Nat.lt_of_lt_of_le hlt hb.size, fun i hi => ?_⟩
    obtain ⟨tv, a1, a2, a3⟩ := hc i hi
    exact ⟨tv, by rw [hb.cell (by exact hlt)]; exact a1, by rw [hb.cell (by exact hlt)]; exact a2, a3.below hb (Nat.le_refl _)⟩
  refine (HBN.out _ _ hB3 hli3).mono ?_
  rintro e w3 ⟨⟨pa, pl, pc, sa', sl', sc', qa', ql', qc', rfl, hob⟩, hb3⟩
  obtain ⟨ad4, cp4, e4, _⟩ := id hob.1
  injection e4 with e4a e4 e4c
  subst e4 e4a e4c
  simp only [show obNop.code.length = 2 from rfl]
  have hB23 : Below w2.heap.size w2 w3 := (oalloc _ _).trans (hb3.mono (by simp))
  have y0 := (hB23.block _ (blk_lt X0.out)).trans X0.out
  have y1 := (hB23.block _ (blk_lt X1.out)).trans X1.out
  have o0 : w3.cell? ⟨w1.heap.size, 0, none⟩ = some (.slice ca 12 cc) := blk_cell y0 rfl
  have o1 : w3.cell? ⟨w1.heap.size, 1, none⟩ = some (.slice sa 1 sc) := blk_cell y0 rfl
  have o2 : w3.cell? ⟨w1.heap.size, 2, none⟩ = some (.slice (some ⟨rb, ro, none⟩) 1 qc) := blk_cell y0 rfl
  obtain ⟨⟨v0, v1⟩, _⟩ := var2_of y1
  have zz := blk_lt y1
  have hr4 := hB23.cell (p := ⟨rb, ro, none⟩) (by show rb < w2.heap.size; exact Nat.lt_of_lt_of_le hrlt HB2.out.size)
  have hr5 := HB2.out.cell (p := ⟨rb, ro, none⟩) (by exact hrlt)
  have r8 : w3.cell? ⟨rb, ro, none⟩ = some (.int .i64 8) := hr4.trans (hr5.trans r0)
  have zr : rb < w3.heap.size := Nat.lt_of_lt_of_le hrlt (Nat.le_trans HB2.out.size hB23.size)
  have HB3 : Hid (Below w.heap.size w w3) := (HB1.out.trans (HB2.out.mono HB1.out.size)).trans (hB23.mono (Nat.le_trans HB1.out.size HB2.out.size))
  have lift : ∀ (p : Addr) (x : Value) (A B : Obj), p.block < w3.heap.size → w3.cell? p = some x → ((w3.alloc A).alloc B).cell? p = some x := fun p x A B hp hx => by
    have hb : Below w3.heap.size w3 ((w3.alloc A).alloc B) := (oalloc _ _).trans ((oalloc _ _).mono (by simp))
    rw [hb.cell hp]; exact hx
  have g0 := fun A B => lift _ _ A B (show w1.heap.size < w3.heap.size by omega) o0
  have g1 := fun A B => lift _ _ A B (show w1.heap.size < w3.heap.size by omega) o1
  have g2 := fun A B => lift _ _ A B (show w1.heap.size < w3.heap.size by omega) o2
  have g3 := fun A B => lift _ _ A B (show w1.heap.size + 1 < w3.heap.size by omega) v0
  have g4 := fun A B => lift _ _ A B (show rb < w3.heap.size by omega) r8
  clear hob hb3 hB23 y0 y1 hr4 hr5 r0 r1 r2 r3 hB3 hli3 HBN X0 X1 HLI hrlt o0 o1 o2 v0 v1 r8 lift
  go_wp2_with fail
  go_ret
  exact ⟨rfl, HB3.out.trans (((oalloc _ _).trans ((oalloc _ _).mono (by simp))).mono HB3.out.size)⟩

end Go.Proofs.YtagkmgdjkailkaaGreatDoor

namespace Go.Proofs.YtagkmgdjkailkaaGreatDoor
open Go.RowKit Go.Maps Go.MapKept

/-- The unit behind some lines of .long. -/
structure DatR (w W : World) (gu mb gp : Nat) (its : List It) : Prop where
  bx : Bx w W
  ur : ∃ ln, UR W (gu + 1) gu (.slice none 0 0) ln (.slice none 0 0) (.map (some mb)) (.pointer (some ⟨gp, 0, none⟩)) (.slice none 0 0) (.slice none 0 0) its
  mp : W.heap[mb]? = some (.map #[] 0)
  po : ∃ f mi, W.heap[gp]? = some (.cells #[.int .i64 f, .slice none 0 0, .map (some mi)] 116 (0, 0))

def dataC (l : List (Int × Int)) : List UInt8 := (l.map fun a => (a.1, wrap32 a.2)).flatMap fun a => be4 a.2

end Go.Proofs.YtagkmgdjkailkaaGreatDoor

namespace Go.Proofs.YtagkmgdjkailkaaGreatDoor
open Go.RowKit Go.Maps Go.MapKept Go.Proofs.YtagkmgdjkailkaaGreatDoor.Isa

theorem rGet_any (ad : Option Addr) (len cap : Nat) (bs : Nat → Int) (a size : Int) (w : World) (hbs : IsByte bs) (hlen : len ≤ maxLen)
    (hrow : 0 < len → ∃ b off, ad = some ⟨b, off, none⟩ ∧ ∀ i, i < len → w.cell? ⟨b, off + i, none⟩ = some (.int .u8 (bs i)))
    (hs0 : 0 ≤ size) (hs1 : size ≤ 6) (ha0 : -1000000000 ≤ a) (ha1 : a ≤ 9223372036854775000) :
    Calls Tryz.prog 9 #[.slice ad len cap, .int .i64 a, .int .i64 size] w fun e w' => e = .returned (.int .i64 (getTo bs len a size.toNat)) ∧ w' = w := by
  unfold maxLen at hlen
  go_enter Tryz.func9, Tryz.ntmps9
  go_wp2
  go_loop [7, 10] (fun n i => ∃ k : Nat, k ≤ size.toNat ∧ i = .int .i64 k ∧ n = .int .i64 (getTo bs len a k)) (fun _ i => size.toNat - (intOf i).toNat)
  case atStart => exact ⟨0, Nat.zero_le _, rfl, rfl⟩
  case round =>
    obtain ⟨k, hk, rfl, rfl⟩ := hrel
    by_cases hlt : k < size.toNat
    · have hk1 : (k : Int) < size := by omega
      have hg := getTo_bd hbs len a k
      have hg1 : getTo bs len a k < 281474976710656 := by
        have hk6 : k = 0 ∨ k = 1 ∨ k = 2 ∨ k = 3 ∨ k = 4 ∨ k = 5 := by omega
        have h2 := hg.2
        rcases hk6 with h | h | h | h | h | h <;> (rw [h] at h2 ⊢; simp at h2; omega)
      have hg0 := hg.1
      have HS : Hid (getTo bs len a (k + 1) = getTo bs len a k * 256 + byteAt bs len (a + k)) := rfl
      clear hg
      generalize getTo bs len a k = g at *
      by_cases hp : 0 ≤ a + k ∧ a + k < (len : Int)
      · obtain ⟨hp0, hp1⟩ := hp
        have HB : Hid (byteAt bs len (a + k) = bs (a + k).toNat) := by simp [Hid, byteAt, hp0, hp1]
        obtain ⟨b, off, rfl, hcell⟩ := hrow (by omega)
        have hc := hcell (a + k).toNat (by omega)
        have hb := hbs (a + k).toNat
        obtain ⟨hb0, hb1⟩ := hb
        clear hcell
        go_wp2
        exact ⟨⟨k + 1, by omega, by go_num, by rw [HS.out, HB.out]⟩, by simp [intOf]; omega⟩
      · have HB : Hid (byteAt bs len (a + k) = 0) := by simp [Hid, byteAt]; omega
        by_cases hp0 : 0 ≤ a + k
        · have hp1 : ¬ a + k < (len : Int) := by omega
          go_wp2
          exact ⟨⟨k + 1, by omega, by go_num, by rw [HS.out, HB.out, Int.add_zero]⟩, by simp [intOf]; omega⟩
        · go_wp2
          exact ⟨⟨k + 1, by omega, by go_num, by rw [HS.out, HB.out, Int.add_zero]⟩, by simp [intOf]; omega⟩
    · have hk1 : ¬ (k : Int) < size := by omega
      have hke : k = size.toNat := by omega
      subst hke
      go_wp2
      go_ret
      exact ⟨rfl, rfl⟩

def byL (l : List UInt8) (i : Nat) : Int := ((l[i]?.map fun c => c.toNat).getD 0 : Nat)
theorem byL_byte (l : List UInt8) : IsByte (byL l) := fun i => by
  unfold byL
  cases h : l[i]? with
  | none => simp
  | some c => simp; have := c.toNat_lt; omega

theorem rget_bytes (l : List UInt8) (v : Value) (w : World) (hv : OBytes w v l) (a k : Int) (hk0 : 0 ≤ k) (hk : k ≤ 6) (ha0 : 0 ≤ a) (ha : a ≤ 9223372036854775000) :
    Calls Tryz.prog 9 #[v, .int .i64 a, .int .i64 k] w fun e w' => e = .returned (.int .i64 (getTo (byL l) l.length a k.toNat)) ∧ w' = w := by
  obtain ⟨ad, cap, rfl, hm, hc⟩ := hv
  refine rGet_any ad l.length cap (byL l) a k w (byL_byte l) hm (fun h0 => ?_) hk0 hk (by omega) ha
  obtain ⟨b, o, rfl, _, hcs⟩ := hc h0
  refine ⟨b, o, rfl, fun i hi => ?_⟩
  rw [hcs i hi]
  simp [byL, hi]

theorem lowB_num (n : Int) : ((lowB n).toNat : Int) = n % 256 := by
  have h0 := Int.emod_nonneg n (show (256 : Int) ≠ 0 by decide)
  have h1 := Int.emod_lt_of_pos n (show (0 : Int) < 256 by decide)
  unfold lowB
  rw [UInt8.toNat_ofNat', Nat.mod_eq_of_lt (by omega)]
  omega

end Go.Proofs.YtagkmgdjkailkaaGreatDoor
