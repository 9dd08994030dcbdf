/- pllaw5.AsmData's own walk. asm: numbers of .word kept. asm: the lines of a branch and of what it leads over, read. The source of AsmFar, and its lines: functions of lists; no program in this text. -/
import Derived.Test.YtagkmgdjkailkaaGreatDoorPut46
import Derived.Lib.ConvBytes
import Derived.Lib.AtoiErrMem
import Derived.Test.YtagkmgdjkailkaaGreatDoorPut35
import Derived.Test.YtagkmgdjkailkaaGreatDoorPut41
import Derived.Test.YtagkmgdjkailkaaGreatDoorPut27
namespace Go.Proofs.YtagkmgdjkailkaaGreatDoor
open Go.RowKit Go.Maps Go.MapKept

/-- A slice of whole numbers. -/
def IRd (w : World) (a : Option Addr) (l : List Int) : Prop := (∀ n, n ∈ l → -9223372036854775808 ≤ n ∧ n ≤ 9223372036854775807) ∧ l.length ≤ 140737488351232 ∧ (0 < l.length → ∃ b o, a = some ⟨b, o, none⟩ ∧ b < w.heap.size ∧ ∀ i (h : i < l.length), w.cell? ⟨b, o + i, none⟩ = some (.int .i64 l[i]))

theorem AllLaid.next {w w' : World} (h : AllLaid w) (hb : Below w.heap.size w w') : AllLaid w' := ⟨h.isa.below hb h.isa.sz, h.frm.below hb h.frm.sz, KL.below h.ex hb, h.gl.below hb h.gl.sz⟩

theorem itoa_of (n : Int) (h0 : -9223372036854775808 ≤ n) (h1 : n ≤ 9223372036854775807) (w : World) (hG : Sc.Glob w) :
    Calls Tryz.prog 6 #[.int .i64 n] w fun e w' => e = .returned (.string ⟨(Lib.itoa n).toArray⟩) ∧ Below w.heap.size w w' := by
  refine (Tryz.strconv_Itoa n h0 h1 w hG.tab).mono ?_
  rintro e w' ⟨rfl, k, os, rfl⟩
  exact ⟨rfl, Lib.below_grow _ w (Nat.le_refl _) k os⟩

end Go.Proofs.YtagkmgdjkailkaaGreatDoor

namespace Go.Proofs.YtagkmgdjkailkaaGreatDoor
open Go.RowKit

set_option maxRecDepth 100000 in
theorem numbers_more (gu B : Nat) (e nv lm pp pv rv : Value) (ln : Int) (its : List It) (size : Int) (ns : List Int) (oa : Option Addr) (oc : Nat) (w : World) (h : UR w B gu e ln nv lm pp pv rv its) (hs : size = 1 ∨ size = 2 ∨ size = 4) (hn0 : 0 < ns.length) (hn : its.length + ns.length ≤ 100000)
    (hr : OpsR w oa (ns.map fun n => ⟨⟨#[112]⟩, 0, ⟨#[]⟩, n⟩)) (hfit : ∀ n, n ∈ ns → fitsU n (8 * size) = true) :
    Calls Tryz.prog 87 #[.pointer (some ⟨gu, 0, none⟩), .int .i64 size, .slice oa ns.length oc] w fun r w' => r = .returned (.int .i64 0) ∧ UR w' B gu e ln nv lm pp pv rv (its ++ ns.map (numI ln size [])) ∧ Fr gu B w w' ∧ KeepM w w' := by
  have hne : ((ns.length : Int) == 0) = false := beq_eq_false_iff_ne.2 (by omega)
  have H0 := Lib.hid h
  have HR := Lib.hid hr
  have HFIT := Lib.hid hfit
  clear h hr hfit
  go_enter Tryz.func87, Tryz.ntmps87
  go_wp2_with fail
  go_loopw [15] (fun iv wr => ∃ k : Nat, k ≤ ns.length ∧ iv = .int .i64 k ∧ Hid (UR wr B gu e ln nv lm pp pv rv (its ++ (ns.take k).map (numI ln size []))) ∧ Hid (Fr gu B w wr) ∧ Hid (KeepM w wr)) (fun iv _ => ns.length - (intOf iv).toNat)
  case atStart => exact ⟨0, Nat.zero_le _, rfl, Lib.hid (by simpa using H0.out), Fr.refl _ _ _, KeepM.of (Below.refl _ _)⟩
  case round =>
    obtain ⟨k, hk, rfl, HU, HF, HK⟩ := hrel
    by_cases hlt : k < ns.length
    · have hk' : (k : Int) < ns.length := by omega
      have hs1 : 1 ≤ size ∧ size ≤ 4 := by omega
      obtain ⟨g, hoa, hgl, k0, k1, k2, k3⟩ : ∃ g, oa = some ⟨g, 0, none⟩ ∧ g < wr.heap.size ∧ wr.cell? ⟨g, k * 4, none⟩ = some (.string ⟨#[112]⟩) ∧ wr.cell? ⟨g, k * 4 + 1, none⟩ = some (.int .i64 0) ∧ wr.cell? ⟨g, k * 4 + 2, none⟩ = some (.string ⟨#[]⟩) ∧ wr.cell? ⟨g, k * 4 + 3, none⟩ = some (.int .i64 ns[k]) := by
        obtain ⟨g, rfl, cur, hgg, hcell⟩ := HR.out (by simpa using hn0)
        have hgw : wr.heap[g]? = some (.cells cur 172 (0, 0)) := HK.out.2 _ _ hgg (by intro c f e; injection e with _ e3; exact absurd e3 (by decide)) (by intro c f e; injection e with _ e3; exact absurd e3 (by decide))
        obtain ⟨a, b, c, d⟩ := hcell k (by simpa using hlt)
        simp only [List.getElem_map] at a b c d
        exact ⟨g, rfl, blk_lt hgw, blk_cell hgw a, blk_cell hgw b, blk_cell hgw c, blk_cell hgw d⟩
      subst hoa
      obtain ⟨n, hnk⟩ : ∃ n, ns[k]'hlt = n := ⟨_, rfl⟩
      rw [hnk] at k3
      have hft : fitsU n (8 * size) = true := HFIT.out n (by rw [← hnk]; exact List.getElem_mem _)
      have HFI : Hid (∀ W, Calls Tryz.prog 126 #[.int .i64 n, .int .i64 (8 * size)] W fun r w' => r = .returned (.bool true) ∧ w' = W) := fun W => by
        have := fitsA_any n (8 * size) (by omega) W
        rwa [hft] at this
      have HT : Hid (its ++ (ns.take (k + 1)).map (numI ln size []) = (its ++ (ns.take k).map (numI ln size [])) ++ [numI ln size [] n]) := by
        unfold Hid
        rw [List.take_succ_eq_append_getElem hlt, hnk]
        simp
      have HNU := Lib.hid fun W => numberI_any ⟨gu, 0, none⟩ size ⟨#[]⟩ n W
      clear hnk hft
      go_wp2_with (go_at_call 126; refine (HFI.out _).mono ?_; rintro e w1 ⟨rfl, rfl⟩)
      refine (HNU.out _).mono ?_
      rintro e' w2 ⟨⟨gb, gs, gv, rfl, _, x1, x2, x3⟩, hb2⟩
      have hB2 : Below wr.heap.size wr w2 := Below.trans (oalloc _ _) (hb2.mono (by simp))
      have hU2 := HU.out.go hB2
      have HAD := Lib.hid (uadd_more gu B e nv lm pp pv rv _ _ ln 0 (numI ln size [] n) _ w2 hU2 rfl (GenR.num (nm := []) x1 x2 x3) (by simp; omega))
      have HF2 : Hid (Fr gu B w w2) := HF.out.trans (Fr.below (hB2.mono HU.out.le))
      have HK2 : Hid (KeepM w w2) := HK.out.trans (KeepM.of hB2)
      clear x1 x2 x3 hb2 hB2 hU2 HNU HFI HU HF HK
      unfold itV numI at HAD
      unfold itV
      simp only at HAD
      go_wp2_with (go_at_call 47; refine HAD.out.mono ?_; rintro e'' w3 ⟨rfl, hu3, hf3, hk3⟩; have HU3 := Lib.hid hu3; have HF3 := Lib.hid (HF2.out.trans hf3); have HK3 := Lib.hid (HK2.out.trans hk3); clear hu3 hf3 hk3)
      exact ⟨⟨k + 1, by omega, by go_num, Lib.hid (by rw [HT.out]; exact HU3.out), HF3, HK3⟩, by simp [intOf]; omega⟩
    · obtain rfl : k = ns.length := by omega
      have hk' : ¬ ((ns.length : Nat) : Int) < ns.length := by omega
      go_wp2
      go_ret
      have := HU.out
      rw [List.take_length] at this
      exact ⟨rfl, this, HF.out, HK.out⟩


theorem statement_word (gu B : Nat) (e nv lm pp pv rv : Value) (ln : Int) (its : List It) (ns : List Int) (oa : Option Addr) (oc : Nat) (w : World) (h : UR w B gu e ln nv lm pp pv rv its) (hn0 : 0 < ns.length) (hn : its.length + ns.length ≤ 100000)
    (hr : OpsR w oa (ns.map fun n => ⟨⟨#[112]⟩, 0, ⟨#[]⟩, n⟩)) (hfit : ∀ n, n ∈ ns → fitsU n 16 = true) :
    Calls Tryz.prog 46 #[.pointer (some ⟨gu, 0, none⟩), .string ⟨#[46, 119, 111, 114, 100]⟩, .slice oa ns.length oc] w fun r w' => r = .returned (.int .i64 0) ∧ UR w' B gu e ln nv lm pp pv rv (its ++ ns.map (numI ln 2 [])) ∧ Fr gu B w w' ∧ KeepM w w' := by
  have HN := Lib.hid (numbers_more gu B e nv lm pp pv rv ln its 2 ns oa oc w h (.inr (.inl rfl)) hn0 hn hr hfit)
  clear h hr hfit
  go_enter Tryz.func46, Tryz.ntmps46
  go_wp2_with (go_at_call 87; refine HN.out.mono ?_; rintro e' w1 ⟨rfl, h1, h2, h3⟩)
  go_ret
  exact ⟨rfl, h1, h2, h3⟩

end Go.Proofs.YtagkmgdjkailkaaGreatDoor

namespace Go.Proofs.YtagkmgdjkailkaaGreatDoor
open Go.RowKit Go.Maps Go.MapKept

def nmThere : List UInt8 := [116, 104, 101, 114, 101]
def tkThere : Tk := ⟨1, 0, ⟨#[116, 104, 101, 114, 101]⟩⟩
def tkWordS : Tk := ⟨1, 0, ⟨#[46, 119, 111, 114, 100]⟩⟩
def tkComma : Tk := ⟨3, 0, ⟨#[44]⟩⟩
def nines : Nat → List Tk
  | 0 => [tkNum 9]
  | n + 1 => tkNum 9 :: tkComma :: nines n
theorem isc_num : isComma (tkNum 9) = false := rfl
theorem isc_comma : isComma tkComma = true := by simp [isComma, tkComma, ByteArray.toList_eq]
theorem nines_split : ∀ n, splitT [] (nines n) = List.replicate (n + 1) [tkNum 9]
  | 0 => by simp [nines, splitT, isc_num]
  | n + 1 => by
    rw [nines, splitT, if_neg (by rw [isc_num]; decide), splitT, if_pos isc_comma, nines_split n, List.replicate_succ (n := n + 1)]
    rfl
theorem nines_len : ∀ n, (nines n).length = 2 * n + 1
  | 0 => rfl
  | n + 1 => by rw [nines, List.length_cons, List.length_cons, nines_len n]; omega
theorem nines_pieces (n : Nat) : piecesT (nines n) = List.replicate (n + 1) [tkNum 9] := by
  rw [piecesT, if_neg (by cases n <;> simp [nines]), nines_split]

theorem UR.same {W : World} {gu : Nat} {B : Nat} {e : Value} {ln : Int} {nv nv' lm pp pv rv : Value} {its : List It} (hn : UR W B gu e ln nv' lm pp pv rv its) (hu : UR W B gu e ln nv lm pp pv rv its) : nv' = nv := by
  obtain ⟨i1, l1, a1, _⟩ := hn.its
  obtain ⟨i2, l2, a2, _⟩ := hu.its
  have e := a1.symm.trans a2
  injection e with e
  injection e with e _
  have e2 := congrArg (fun a : Array Value => a[2]?) e
  simpa [uC] using e2

section
variable (w W : World) (gu mb gp mi : Nat) (v : Value) (ln : Int) (labs : List (List UInt8 × Nat)) (its : List It)

/-- An instruction without operands, behind what labels leave. -/
theorem plain_stat (op : Int) (name : ByteArray) (hA : AllLaid w) (hge : w.heap.size + 2 ≤ gu) (hname : name.toList ∉ dirs) (hop : findU name ⟨(formU []).toArray⟩ 12 0 = op) (h0 : op ≠ 0) (hw : Isa.wrongI op 0 0 0 = 0) (hits : its.length ≤ 100000) (X : World) (oa : Option Addr) (oc : Nat) (hX : AlR w X gu mb gp mi ln labs its false) (ho : OpsR X oa []) :
    Calls Tryz.prog 46 #[.pointer (some ⟨gu, 0, none⟩), .string name, .slice oa 0 oc] X fun r w' => r = .returned (.int .i64 0) ∧ AlR w w' gu mb gp mi ln labs (its ++ [plainI ln op 0 0 0]) false := by
  obtain ⟨nv, hu, _⟩ := hX.ur
  refine statement_of gu _ oa 0 oc X _ hname ?_
  refine (instr_plain gu (gu + 1) _ nv _ _ _ _ ln its name [] oa oc op X hu (hA.isa.below hX.bx.bel hA.isa.sz) (hA.frm.below hX.bx.bel hA.frm.sz) ho (by simp) (by simp) (by simp) (by decide) (by decide) hop h0 hw hits).mono ?_
  rintro r w' ⟨rfl, hu', hf, hk⟩
  refine ⟨rfl, hX.keep hk hf hge (fun nv' hn => ?_)⟩
  obtain rfl := hn.same hu
  exact hu'

theorem no_ops (X : World) (v2 : Value) (h2 : PReads X v2 []) : Calls Tryz.prog 45 #[.pointer (some ⟨gu, 0, none⟩), v2] X fun r w' => (∃ oa oc, r = .returned (.tuple #[.slice oa ([] : List Opd).length oc, .int .i64 0]) ∧ OpsR w' oa []) ∧ Below X.heap.size X w' := by
  refine (operands_any gu v2 [] [] X h2 (by simp) (by simp [piecesT]) (by intro i hi; simp at hi)).mono ?_
  rintro r w' ⟨⟨ov, rfl, hr⟩, hb⟩
  obtain ⟨oa, oc, hov⟩ := row_shape hr
  subst hov
  exact ⟨⟨oa, oc, rfl, fun h0 => by simp at h0⟩, hb⟩

theorem read_nop (hA : AllLaid w) (hge : w.heap.size + 2 ≤ gu) (h : AlR w W gu mb gp mi ln labs its false) (hits : its.length ≤ 100000) (hv : PReads w v [tkNop]) :
    Calls Tryz.prog 25 #[.pointer (some ⟨gu, 0, none⟩), v] W fun r w' => r = .returned (.int .i64 0) ∧ AlR w w' gu mb gp mi ln labs (its ++ [plainI ln 1 0 0 0]) false := by
  refine read_gen gu v 0 ⟨#[110, 111, 112]⟩ [] [] w W (fun X => AlR w X gu mb gp mi ln labs its false) _ ?_ (fun A B h1 h2 => h1.go h2) (fun X hX => hX.bx.bel) ?_ ?_ (by obtain ⟨a, b, e, _⟩ := hv; exact ⟨_, _, _, e⟩)
  · refine (labels_none gu v [tkNop] W (hv.below h.bx.bel (Nat.le_refl _)) rfl).mono ?_
    rintro r w' ⟨rfl, hb⟩
    exact ⟨v, rfl, hv, h.go hb⟩
  · intro X v2 hX hv2
    exact no_ops gu X v2 (hv2.below hX.bx.bel (Nat.le_refl _))
  · intro X oa oc hX ho
    exact plain_stat w gu mb gp mi ln labs its 1 ⟨#[110, 111, 112]⟩ hA hge (by rw [ByteArray.toList_eq]; decide) find_nop (by decide) (by kernel_rfl) hits X oa oc hX ho

theorem find_bt : findU ⟨#[98, 116]⟩ ⟨#[112]⟩ 12 0 = 17 := by
  rw [findU_eq]
  kernel_rfl
theorem find_bf : findU ⟨#[98, 102]⟩ ⟨#[112]⟩ 12 0 = 18 := by
  rw [findU_eq]
  kernel_rfl
theorem find_rts : findU ⟨#[114, 116, 115]⟩ ⟨(formU []).toArray⟩ 12 0 = 2 := by
  rw [findU_eq]
  kernel_rfl

/-- bt or bf. -/
theorem read_br (op : Int) (name : ByteArray) (hname : name.toList ∉ dirs) (hop : findU name ⟨#[112]⟩ 12 0 = op) (hop2 : op = 17 ∨ op = 18) (hlb : labelled [⟨1, 0, name⟩, tkThere] = false) (hA : AllLaid w) (hge : w.heap.size + 2 ≤ gu) (h : AlR w W gu mb gp mi ln labs its false) (hits : its.length ≤ 100000) (hv : PReads w v [⟨1, 0, name⟩, tkThere]) :
    Calls Tryz.prog 25 #[.pointer (some ⟨gu, 0, none⟩), v] W fun r w' => r = .returned (.int .i64 0) ∧ AlR w w' gu mb gp mi ln labs (its ++ [leadI ln op 0 0 0 (.val nmThere 0)]) false := by
  have hr : regU 1 nmThere < 0 := by unfold regU; decide
  refine read_gen gu v 0 name [tkThere] [⟨⟨#[112]⟩, 0, ⟨#[116, 104, 101, 114, 101]⟩, 0⟩] w W (fun X => AlR w X gu mb gp mi ln labs its false) _ ?_ (fun A B h1 h2 => h1.go h2) (fun X hX => hX.bx.bel) ?_ ?_ (by obtain ⟨a, b, e, _⟩ := hv; exact ⟨_, _, _, e⟩)
  · refine (labels_none gu v _ W (hv.below h.bx.bel (Nat.le_refl _)) hlb).mono ?_
    rintro r w' ⟨rfl, hb⟩
    exact ⟨v, rfl, hv, h.go hb⟩
  · intro X v2 hX hv2
    obtain ⟨nv, hu, _⟩ := hX.ur
    have hpc : piecesT [tkThere] = [[tkThere]] := pieces_one tkThere rfl
    refine (operands_any gu v2 [tkThere] [⟨⟨#[112]⟩, 0, ⟨#[116, 104, 101, 114, 101]⟩, 0⟩] X (hv2.below hX.bx.bel (Nat.le_refl _)) (by simp) (by rw [hpc]; rfl) ?_).mono ?_
    · intro i hi u X2 hb2 hu2
      have hi0 : i = 0 := by simp at hi; omega
      subst hi0
      have hu3 : PReads X2 u [tkThere] := by simpa [hpc] using hu2
      have hB3 : Below w.heap.size w X2 := hX.bx.bel.trans (hb2.mono hX.bx.bel.size)
      exact operand_atom gu u tkThere ⟨#[116, 104, 101, 114, 101]⟩ 0 (.inr ⟨rfl, rfl, rfl, by decide⟩) X2 (KL.below hA.ex hB3) (hA.gl.below hB3 hA.gl.sz) hu3 (hu.go hb2).cell0 hr
    · rintro r w' ⟨⟨ov, rfl, hr⟩, hb⟩
      obtain ⟨oa, oc, hov⟩ := row_shape hr
      subst hov
      exact ⟨⟨oa, oc, rfl, OpsR.of_row hr⟩, hb⟩
  · intro X oa oc hX ho
    obtain ⟨nv, hu, _⟩ := hX.ur
    refine statement_of gu _ oa 1 oc X _ hname ?_
    refine (instr_lead gu (gu + 1) _ nv _ _ _ _ ln its name [⟨⟨#[112]⟩, 0, ⟨#[116, 104, 101, 114, 101]⟩, 0⟩] ⟨⟨#[112]⟩, 0, ⟨#[116, 104, 101, 114, 101]⟩, 0⟩ nmThere rfl rfl oa oc op X hu (hA.isa.below hX.bx.bel hA.isa.sz) (hA.frm.below hX.bx.bel hA.frm.sz) ho (by simp) (by intro o ho; simp at ho; subst ho; rfl) (by intro o ho hk; simp at ho; subst ho; rw [ByteArray.toList_eq] at hk; exact absurd hk (by decide)) (by decide) (by decide) hop (by rcases hop2 with rfl | rfl <;> decide) ?_ hits).mono ?_
    · simp only [List.foldl_cons, List.foldl_nil, fillU, ByteArray.toList_eq]
      rcases hop2 with rfl | rfl <;> kernel_rfl
    · rintro r w' ⟨rfl, hu', hf, hk⟩
      refine ⟨rfl, hX.keep hk hf hge (fun nv' hn => ?_)⟩
      obtain rfl := hn.same hu
      simp only [List.foldl_cons, List.foldl_nil, fillU, ByteArray.toList_eq] at hu'
      exact hu'

/-- A line of .word and nines. -/
theorem read_word (n : Nat) (hA : AllLaid w) (hge : w.heap.size + 2 ≤ gu) (h : AlR w W gu mb gp mi ln labs its false) (hn : n ≤ 100) (hits : its.length ≤ 90000) (hv : PReads w v (tkWordS :: nines n)) :
    Calls Tryz.prog 25 #[.pointer (some ⟨gu, 0, none⟩), v] W fun r w' => r = .returned (.int .i64 0) ∧ AlR w w' gu mb gp mi ln labs (its ++ List.replicate (n + 1) (numI ln 2 [] 9)) false := by
  refine read_gen gu v 0 ⟨#[46, 119, 111, 114, 100]⟩ (nines n) ((List.replicate (n + 1) 9).map fun n => ⟨⟨#[112]⟩, 0, ⟨#[]⟩, n⟩) w W (fun X => AlR w X gu mb gp mi ln labs its false) _ ?_ (fun A B h1 h2 => h1.go h2) (fun X hX => hX.bx.bel) ?_ ?_ (by obtain ⟨a, b, e, _⟩ := hv; exact ⟨_, _, _, e⟩)
  · refine (labels_none gu v _ W (hv.below h.bx.bel (Nat.le_refl _)) (by cases n <;> rfl)).mono ?_
    rintro r w' ⟨rfl, hb⟩
    exact ⟨v, rfl, hv, h.go hb⟩
  · intro X v2 hX hv2
    obtain ⟨nv, hu, _⟩ := hX.ur
    have hpc := nines_pieces n
    refine (operands_any gu v2 (nines n) ((List.replicate (n + 1) 9).map fun n => ⟨⟨#[112]⟩, 0, ⟨#[]⟩, n⟩) X (hv2.below hX.bx.bel (Nat.le_refl _)) (by rw [nines_len]; omega) (by rw [hpc]; simp) ?_).mono ?_
    · intro i hi u X2 hb2 hu2
      have hu3 : PReads X2 u [tkNum 9] := by simpa [hpc] using hu2
      have hB3 : Below w.heap.size w X2 := hX.bx.bel.trans (hb2.mono hX.bx.bel.size)
      have := operand_atom gu u (tkNum 9) ⟨#[]⟩ 9 (.inl ⟨rfl, rfl, by show (9 : Int) = wrap32 9; unfold wrap32; omega⟩) X2 (KL.below hA.ex hB3) (hA.gl.below hB3 hA.gl.sz) hu3 (hu.go hb2).cell0 (by show regU 2 _ < 0; unfold regU; rw [if_neg (by decide)]; decide)
      simpa [Opd.V] using this
    · rintro r w' ⟨⟨ov, rfl, hr⟩, hb⟩
      obtain ⟨oa, oc, hov⟩ := row_shape hr
      subst hov
      exact ⟨⟨oa, oc, rfl, OpsR.of_row hr⟩, hb⟩
  · intro X oa oc hX ho
    obtain ⟨nv, hu, _⟩ := hX.ur
    have := statement_word gu (gu + 1) _ nv _ _ _ _ ln its (List.replicate (n + 1) 9) oa oc X hu (by simp) (by simp; omega) ho (by intro m hm; obtain rfl := (List.mem_replicate.1 hm).2; rfl)
    rw [List.length_map]
    refine this.mono ?_
    rintro r w' ⟨rfl, hu', hf, hk⟩
    refine ⟨rfl, hX.keep hk hf hge (fun nv' hn => ?_)⟩
    obtain rfl := hn.same hu
    rw [List.map_replicate] at hu'
    exact hu'

/-- there: rts -/
theorem read_rts (hA : AllLaid w) (hge : w.heap.size + 2 ≤ gu ∧ w.heap.size + 2 ≤ mb ∧ w.heap.size + 2 ≤ gp ∧ w.heap.size + 2 ≤ mi) (hlt : mb < gu ∧ gp < gu ∧ mi < gu) (hne : mi ≠ mb) (h : AlR w W gu mb gp mi ln [] its false) (hits : its.length ≤ 100000) (hv : PReads w v [tkThere, ⟨3, 0, ⟨#[58]⟩⟩, ⟨1, 0, ⟨#[114, 116, 115]⟩⟩]) :
    Calls Tryz.prog 25 #[.pointer (some ⟨gu, 0, none⟩), v] W fun r w' => r = .returned (.int .i64 0) ∧ AlR w w' gu mb gp mi ln [(nmThere, its.length)] (its ++ [plainI ln 2 0 0 0]) false := by
  obtain ⟨g1, g2, g3, g4⟩ := hge
  have hr : regU 1 nmThere < 0 := by unfold regU; decide
  refine read_gen gu v 0 ⟨#[114, 116, 115]⟩ [] [] w W (fun X => AlR w X gu mb gp mi ln [(nmThere, its.length)] its false) _ ?_ (fun A B h1 h2 => h1.go h2) (fun X hX => hX.bx.bel) ?_ ?_ (by obtain ⟨a, b, e, _⟩ := hv; exact ⟨_, _, _, e⟩)
  · have hp := h.po
    simp only [Bool.false_eq_true, if_false] at hp
    obtain ⟨nv, hu, hN⟩ := h.ur
    have hown : ∀ i, i ≤ gu → some i ≠ nv.ownBlock := fun i hi e => by
      have := (hN.lt i e.symm).1
      omega
    obtain ⟨es0, ck0, hmb, _⟩ : ∃ es ck, W.heap[mb]? = some (.map es ck) ∧ True := by obtain ⟨D, ⟨es, ck, hb, _⟩, _⟩ := h.lb; exact ⟨es, ck, hb, trivial⟩
    refine (labels_one gu (gu + 1) mb ln nv _ _ _ its [] nmThere 0 0 _ v w W h.bx.bel (by omega) (by omega) hv (by simp [labelled, headT, ByteArray.toList_eq]) hu hN h.lb rfl (by simp [nmThere]; decide) (hA.gl.below h.bx.bel hA.gl.sz) hr (by decide) hits (by simp)).mono ?_
    rintro r w' ⟨v', nv', rfl, hv', hB, hu', hn', hl', hc⟩
    refine ⟨v', rfl, hv', ⟨⟨hB, ?_, ?_⟩, ⟨nv', hu', hn'⟩, hl', ?_⟩⟩
    · rw [hc.block _ (blk_lt h.bx.x0) (by omega) (by omega) (hown _ (by omega))]; exact h.bx.x0
    · rw [hc.block _ (blk_lt h.bx.x1) (by omega) (by omega) (hown _ (by omega))]; exact h.bx.x1
    · simp only [Bool.false_eq_true, if_false]
      have hpm : gp ≠ mb := by rintro rfl; rw [hp.1] at hmb; cases hmb
      exact ⟨by rw [hc.block _ (blk_lt hp.1) (by omega) hpm (hown _ (by omega))]; exact hp.1, by rw [hc.block _ (blk_lt hp.2) (by omega) hne (hown _ (by omega))]; exact hp.2⟩
  · intro X v2 hX hv2
    exact no_ops gu X v2 (hv2.below hX.bx.bel (Nat.le_refl _))
  · intro X oa oc hX ho
    exact plain_stat w gu mb gp mi ln [(nmThere, its.length)] its 2 ⟨#[114, 116, 115]⟩ hA g1 (by rw [ByteArray.toList_eq]; decide) find_rts (by decide) (by kernel_rfl) hits X oa oc hX ho

end

end Go.Proofs.YtagkmgdjkailkaaGreatDoor

namespace Go.Proofs.YtagkmgdjkailkaaGreatDoor
open Go.RowKit

/-- A line that is read as these tokens. -/
def OkL (l : List UInt8) (ts : List Sc.Tok) : Prop := Sc.lineErr l = 0 ∧ Sc.lineList l = ts ∧ ts ≠ [] ∧ (∀ c, c ∈ l → c ≠ 10) ∧ l.length ≤ 80

def numLn : Nat → List (List Sc.Tok) → List Sc.Ln
  | _, [] => []
  | k, t :: r => ⟨k, t⟩ :: numLn (k + 1) r
theorem lines_of : ∀ (l : List (List UInt8 × List Sc.Tok)) (k : Nat), (∀ a, a ∈ l → OkL a.1 a.2) → Sc.linesR k (l.map (·.1) ++ [[]]) = .ok (numLn k (l.map (·.2)))
  | [], k, _ => rfl
  | a :: r, k, h => by
    have ih := lines_of r (k + 1) fun b hb => h b (by simp [hb])
    obtain ⟨e1, e2, e3, _⟩ := h a (by simp)
    rw [List.map_cons, List.cons_append, Sc.linesR, if_pos e1, ih, e2]
    simp [numLn, e3]
theorem split_of : ∀ l : List (List UInt8 × List Sc.Tok), (∀ a, a ∈ l → OkL a.1 a.2) → Sc.splitNL (l.flatMap fun a => a.1 ++ [10]) = l.map (·.1) ++ [[]]
  | [], _ => rfl
  | a :: r, h => by
    have ih := split_of r fun b hb => h b (by simp [hb])
    have e : (a :: r).flatMap (fun a => a.1 ++ [10]) = a.1 ++ 10 :: r.flatMap (fun a => a.1 ++ [10]) := by simp
    rw [e, Sc.split_one _ _ (h a (by simp)).2.2.2.1, ih]
    rfl
theorem len_of : ∀ l : List (List UInt8 × List Sc.Tok), (∀ a, a ∈ l → OkL a.1 a.2) → (l.flatMap fun a => a.1 ++ [10]).length ≤ 81 * l.length
  | [], _ => by simp
  | a :: r, h => by
    have ih := len_of r fun b hb => h b (by simp [hb])
    have := (h a (by simp)).2.2.2.2
    rw [List.flatMap_cons, List.length_append, List.length_append, List.length_cons]
    simp only [List.length_cons, List.length_nil]
    omega
theorem src_of (l : List (List UInt8 × List Sc.Tok)) (h : ∀ a, a ∈ l → OkL a.1 a.2) (hl : l.length ≤ 14) : Sc.srcLines (l.flatMap fun a => a.1 ++ [10]) = .ok (numLn 1 (l.map (·.2))) := by
  unfold Sc.srcLines
  rw [if_neg (by have := len_of l h; omega), split_of l h]
  exact lines_of l 1 h

def brL (nt : Bool) : List UInt8 := if nt then [98, 102, 32, 116, 104, 101, 114, 101] else [98, 116, 32, 116, 104, 101, 114, 101]
def brT (nt : Bool) : List Sc.Tok := [⟨1, 0, if nt then [98, 102] else [98, 116]⟩, ⟨1, 0, [116, 104, 101, 114, 101]⟩]
def reptL (n : Nat) : List UInt8 := [46, 114, 101, 112, 116, 32] ++ Lib.itoa n
def reptT (n : Nat) : List Sc.Tok := [⟨1, 0, [46, 114, 101, 112, 116]⟩, ⟨2, n, []⟩]
def endrL : List UInt8 := [46, 101, 110, 100, 114]
def endrT : List Sc.Tok := [⟨1, 0, [46, 101, 110, 100, 114]⟩]
def nopL : List UInt8 := [110, 111, 112]
def nopT : List Sc.Tok := [⟨1, 0, [110, 111, 112]⟩]
def rtsL : List UInt8 := [116, 104, 101, 114, 101, 58, 32, 114, 116, 115]
def rtsT : List Sc.Tok := [⟨1, 0, [116, 104, 101, 114, 101]⟩, ⟨3, 0, [58]⟩, ⟨1, 0, [114, 116, 115]⟩]
def wordL : List UInt8 := [46, 119, 111, 114, 100, 32, 57, 44, 57, 44, 57, 44, 57, 44, 57, 44, 57, 44, 57, 44, 57, 44, 57, 44, 57, 44, 57, 44, 57, 44, 57, 44, 57, 44, 57, 44, 57, 44, 57, 44, 57, 44, 57, 44, 57, 44, 57, 44, 57, 44, 57, 44, 57, 44, 57, 44, 57, 44, 57, 44, 57, 44, 57, 44, 57]
def wordT : List Sc.Tok := [⟨1, 0, [46, 119, 111, 114, 100]⟩, ⟨2, 9, []⟩, ⟨3, 0, [44]⟩, ⟨2, 9, []⟩, ⟨3, 0, [44]⟩, ⟨2, 9, []⟩, ⟨3, 0, [44]⟩, ⟨2, 9, []⟩, ⟨3, 0, [44]⟩, ⟨2, 9, []⟩, ⟨3, 0, [44]⟩, ⟨2, 9, []⟩, ⟨3, 0, [44]⟩, ⟨2, 9, []⟩, ⟨3, 0, [44]⟩, ⟨2, 9, []⟩, ⟨3, 0, [44]⟩, ⟨2, 9, []⟩, ⟨3, 0, [44]⟩, ⟨2, 9, []⟩, ⟨3, 0, [44]⟩, ⟨2, 9, []⟩, ⟨3, 0, [44]⟩, ⟨2, 9, []⟩, ⟨3, 0, [44]⟩, ⟨2, 9, []⟩, ⟨3, 0, [44]⟩, ⟨2, 9, []⟩, ⟨3, 0, [44]⟩, ⟨2, 9, []⟩, ⟨3, 0, [44]⟩, ⟨2, 9, []⟩, ⟨3, 0, [44]⟩, ⟨2, 9, []⟩, ⟨3, 0, [44]⟩, ⟨2, 9, []⟩, ⟨3, 0, [44]⟩, ⟨2, 9, []⟩, ⟨3, 0, [44]⟩, ⟨2, 9, []⟩, ⟨3, 0, [44]⟩, ⟨2, 9, []⟩, ⟨3, 0, [44]⟩, ⟨2, 9, []⟩, ⟨3, 0, [44]⟩, ⟨2, 9, []⟩, ⟨3, 0, [44]⟩, ⟨2, 9, []⟩, ⟨3, 0, [44]⟩, ⟨2, 9, []⟩, ⟨3, 0, [44]⟩, ⟨2, 9, []⟩, ⟨3, 0, [44]⟩, ⟨2, 9, []⟩, ⟨3, 0, [44]⟩, ⟨2, 9, []⟩, ⟨3, 0, [44]⟩, ⟨2, 9, []⟩, ⟨3, 0, [44]⟩, ⟨2, 9, []⟩]

theorem ok_br : ∀ nt, OkL (brL nt) (brT nt)
  | true => ⟨by kernel_rfl, by kernel_rfl, by simp [brT], by decide, by decide⟩
  | false => ⟨by kernel_rfl, by kernel_rfl, by simp [brT], by decide, by decide⟩
theorem ok_endr : OkL endrL endrT := ⟨by kernel_rfl, by kernel_rfl, by simp [endrT], by decide, by decide⟩
theorem ok_nop : OkL nopL nopT := ⟨by kernel_rfl, by kernel_rfl, by simp [nopT], by decide, by decide⟩
theorem ok_rts : OkL rtsL rtsT := ⟨by kernel_rfl, by kernel_rfl, by simp [rtsT], by decide, by decide⟩
theorem ok_word : OkL wordL wordT := ⟨by kernel_rfl, by kernel_rfl, by simp [wordT], by decide, by decide⟩
theorem ok_rept (n : Nat) (h : n < 1000) : OkL (reptL n) (reptT n) := by
  have hp : reptL n = Sc.printL (reptT n) := by
    rw [reptT, Sc.printL_cons, Sc.tailL_cons]
    simp [reptL, Sc.prT, Sc.tailL, Lib.joinTail]
  have hg : ∀ t, t ∈ reptT n → Sc.Good t := by
    intro t ht
    simp only [reptT, List.mem_cons, List.not_mem_nil, or_false] at ht
    rcases ht with rfl | rfl
    · exact .inl ⟨46, [114, 101, 112, 116], rfl, by decide, by decide⟩
    · exact .inr (.inl ⟨n, rfl, by omega⟩)
  have hlen : (reptL n).length ≤ 27 := by
    have := Lib.itoa_length_le (n : Int) (by omega) (by omega)
    rw [reptL, List.length_append]
    simp
    omega
  obtain ⟨e1, e2⟩ := Sc.line_done (l := reptL n) (done := reptT n) (by omega) (by rw [hp, Sc.code_print _ hg]; exact Sc.toks_print _ hg)
  refine ⟨e1, e2, by simp [reptT], ?_, by omega⟩
  intro c hc
  rw [reptL, List.mem_append] at hc
  rcases hc with hc | hc
  · intro e; subst e; revert hc; decide
  · rw [Sc.itoa_nat (n : Int) (by omega)] at hc
    have := List.all_eq_true.1 (Sc.decDigits_all _) c hc
    intro e; subst e; revert this; decide

/-- The lines, with their tokens. -/
def farL (back nt : Bool) (q r : Nat) : List (List UInt8 × List Sc.Tok) :=
  if back then [(rtsL, rtsT), (nopL, nopT), (reptL q, reptT q), (wordL, wordT), (endrL, endrT), (reptL r, reptT r), (nopL, nopT), (endrL, endrT), (brL nt, brT nt)]
  else [(brL nt, brT nt), (reptL q, reptT q), (wordL, wordT), (endrL, endrT), (reptL r, reptT r), (nopL, nopT), (endrL, endrT), (rtsL, rtsT), (nopL, nopT)]
def farS (back nt : Bool) (q r : Nat) : List UInt8 := (farL back nt q r).flatMap fun a => a.1 ++ [10]
def farLn (back nt : Bool) (q r : Nat) : List Sc.Ln := numLn 1 ((farL back nt q r).map (·.2))
theorem far_ok (back nt : Bool) (q r : Nat) (hq : q < 1000) (hr : r < 1000) : ∀ a, a ∈ farL back nt q r → OkL a.1 a.2 := by
  intro a ha
  unfold farL at ha
  cases back
  · simp only [Bool.false_eq_true, if_false, List.mem_cons, List.not_mem_nil, or_false] at ha
    rcases ha with rfl | rfl | rfl | rfl | rfl | rfl | rfl | rfl | rfl
    · exact ok_br nt
    · exact ok_rept q hq
    · exact ok_word
    · exact ok_endr
    · exact ok_rept r hr
    · exact ok_nop
    · exact ok_endr
    · exact ok_rts
    · exact ok_nop
  · simp only [if_true, List.mem_cons, List.not_mem_nil, or_false] at ha
    rcases ha with rfl | rfl | rfl | rfl | rfl | rfl | rfl | rfl | rfl
    · exact ok_rts
    · exact ok_nop
    · exact ok_rept q hq
    · exact ok_word
    · exact ok_endr
    · exact ok_rept r hr
    · exact ok_nop
    · exact ok_endr
    · exact ok_br nt
theorem far_src (back nt : Bool) (q r : Nat) (hq : q < 1000) (hr : r < 1000) : Sc.srcLines (farS back nt q r) = .ok (farLn back nt q r) :=
  src_of _ (far_ok back nt q r hq hr) (by cases back <;> simp [farL])

end Go.Proofs.YtagkmgdjkailkaaGreatDoor
