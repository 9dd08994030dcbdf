import Derived.Test.YtfmljailbebfgaaGreatDoorPut48
import Derived.Test.YtfmljailbebfgaaGreatDoorPut24
namespace Go.Proofs.YtfmljailbebfgaaGreatDoor
open Go.RowKit Go.Maps Go.MapKept
def opS (a : Int) : OpK := if a < 0 then .neg (-a) else .num a
theorem qK2 (a : Int) (h0 : -100 <= a) (h1 : a <= 100) : (opS a).opd = ⟨⟨#[35]⟩, 0, ⟨#[]⟩, a⟩ := by
 unfold opS
 split
 ·show (⟨⟨#[35]⟩, 0, ⟨#[]⟩, wrap32 (-wrap32 (-a))⟩ : Opd) = _
  rw [show wrap32 (-wrap32 (-a)) = a by unfold wrap32; omega]
 ·show (⟨⟨#[35]⟩, 0, ⟨#[]⟩, wrap32 a⟩ : Opd) = _
  rw [show wrap32 a = a by unfold wrap32; omega]
theorem ok_opS (a : Int) : (opS a).ok := by unfold opS; split <;> trivial
theorem qKC (nm : List UInt8) (a : Int) (r : List OpK) (op : Int) : labelled (Ins.toks ⟨nm, opS a :: r, op⟩) = false :=
 qFf nm (opS a) r op (by intro x m h; unfold opS at h; split at h <;> (simp [OpK.toks, sg] at h; obtain ⟨rfl, rfl⟩ := h; simp [ByteArray.toList_eq]))
def qCd (a : Int) : Ins := ⟨[109, 111, 118], [opS a, .reg r0'], 3⟩
def qCw (a : Int) : Ins := ⟨[97, 100, 100], [opS a, .reg r0'], 4⟩
def iJsr : Ins := ⟨[106, 115, 114], [.ind r1'], 22⟩
def iJmp : Ins := ⟨[106, 109, 112], [.ind r1'], 21⟩
def iRts : Ins := ⟨[114, 116, 115], [], 2⟩
theorem qIA (a : Int) (h0 : -100 <= a) (h1 : a <= 100) : qAV ([opS a, .reg r0'].map OpK.opd) = [35, 114] := by
 simp only [List.map_cons, qK2 a h0 h1]
 simp [qAV, OpK.opd]
theorem qIi (op a : Int) (nm : List UInt8) (h0 : -100 <= a) (h1 : a <= 100) : (Ins.mk nm [opS a, .reg r0'] op).fill = ⟨op, 0, 0, a⟩ := by
 simp only [Ins.fill, List.map_cons, qK2 a h0 h1]
 simp [OpK.opd, qV, ByteArray.toList_eq, kdN, kdP, qDQ]
theorem qIT (a : Int) (h0 : -100 <= a) (h1 : a <= 100) : (qCd a).Ok := by
 refine ⟨by show [109, 111, 118] ∉ dirs; decide, ?_, by simp [qCd], by rw [qCd, qIA a h0 h1]; decide, by rw [qCd, qIA a h0 h1]; exact qGL, by show (3 : Int) ≠ 0; decide, ?_, qKC _ _ _ _⟩
 ·intro k hk
  simp only [qCd, List.mem_cons, List.not_mem_nil, or_false] at hk
  rcases hk with rfl | rfl
  ·exact ok_opS a
  ·show 0 <= regU 1 r0'; rw [qDQ]; decide
 ·rw [qCd, qIi 3 a _ h0 h1]
  exact Si.qMN 0 a (.inl rfl) (by omega) (by omega)
theorem ok_iAddS (a : Int) (h0 : -100 <= a) (h1 : a <= 100) : (qCw a).Ok := by
 refine ⟨by show [97, 100, 100] ∉ dirs; decide, ?_, by simp [qCw], by rw [qCw, qIA a h0 h1]; decide, by rw [qCw, qIA a h0 h1]; exact qGT, by show (4 : Int) ≠ 0; decide, ?_, qKC _ _ _ _⟩
 ·intro k hk
  simp only [qCw, List.mem_cons, List.not_mem_nil, or_false] at hk
  rcases hk with rfl | rfl
  ·exact ok_opS a
  ·show 0 <= regU 1 r0'; rw [qDQ]; decide
 ·rw [qCw, qIi 4 a _ h0 h1]
  exact Si.qLV 0 a (.inl rfl) (by omega) (by omega)
theorem ok_iJsr : iJsr.Ok := by
 refine ⟨by decide, ?_, by simp [iJsr], by decide, ?_, by decide, by kernel_rfl, by kernel_rfl⟩
 ·intro k hk
  simp only [iJsr, List.mem_cons, List.not_mem_nil, or_false] at hk
  subst hk
  show 0 <= regU 1 r1'
  rw [qCN]
  decide
 ·rw [qBK]
  kernel_rfl
theorem ok_iJmp : iJmp.Ok := by
 refine ⟨by decide, ?_, by simp [iJmp], by decide, ?_, by decide, by kernel_rfl, by kernel_rfl⟩
 ·intro k hk
  simp only [iJmp, List.mem_cons, List.not_mem_nil, or_false] at hk
  subst hk
  show 0 <= regU 1 r1'
  rw [qCN]
  decide
 ·rw [qBK]
  kernel_rfl
theorem ok_iRts : iRts.Ok := by
 refine ⟨by decide, by simp [iRts], by simp [iRts], by decide, ?_, by decide, by kernel_rfl, by kernel_rfl⟩
 rw [qBK]
 kernel_rfl
theorem it_movS (a ln : Int) (h0 : -100 <= a) (h1 : a <= 100) : (qCd a).it ln = qAI ln 3 0 0 a := by
 have e : (qCd a).it ln = qAI ln (qCd a).fill.op (qCd a).fill.n (qCd a).fill.m (qCd a).fill.imm := by by_cases h : a < 0 <;> simp [Ins.it, qCd, opS, h]
 rw [e, qCd, qIi 3 a _ h0 h1]
theorem it_addS (a ln : Int) (h0 : -100 <= a) (h1 : a <= 100) : (qCw a).it ln = qAI ln 4 0 0 a := by
 have e : (qCw a).it ln = qAI ln (qCw a).fill.op (qCw a).fill.n (qCw a).fill.m (qCw a).fill.imm := by by_cases h : a < 0 <;> simp [Ins.it, qCw, opS, h]
 rw [e, qCw, qIi 4 a _ h0 h1]
theorem it_jsr (ln : Int) : iJsr.it ln = qAI ln 22 1 0 0 := by kernel_rfl
theorem it_jmp (ln : Int) : iJmp.it ln = qAI ln 21 1 0 0 := by kernel_rfl
theorem it_rts (ln : Int) : iRts.it ln = qAI ln 2 0 0 0 := by kernel_rfl
section
variable (W : World) (f : Nat -> Nat) (n : Nat)
theorem qKt (gp : Nat) (pl : Int) (rg : List UInt8) (hf : f gp <= n) (hp : ∃ vv mv, W.heap[gp]? = some (.cells #[.int .i64 (f gp), vv, mv] 186 (0, 0))) : qEk W f n (askI gp pl rg) :=
 ⟨show Isa.qL 24 ≠ 4 by decide, ⟨by show (0 : Int) <= 2; decide, by show (2 : Int) <= 6; decide, by show (1 : Int) <= 1; decide, by show (1 : Int) <= 16; decide⟩, ⟨by show (1 : Int) <= 2; decide, by show (2 : Int) <= 16; decide⟩, by show (2 : Int) <= 4; decide, rfl, rfl, by show f gp + 0 <= n; omega, hp⟩
theorem qIf (ln : Int) : qEk W f n (qFL ln 4) := ⟨trivial, ⟨by show (0 : Int) <= 0; decide, by show (0 : Int) <= 6; decide, by show (1 : Int) <= 4; decide, by show (4 : Int) <= 16; decide⟩, ⟨by show (1 : Int) <= 1; decide, by show (1 : Int) <= 16; decide⟩, by show (0 : Int) <= 4; decide, trivial⟩
theorem qKf (ln : Int) (nm : List UInt8) (h : nm.length <= maxLen) : qEk W f n (numI ln 4 nm 0) := ⟨trivial, ⟨by show (0 : Int) <= 4; decide, by show (4 : Int) <= 6; decide, by show (1 : Int) <= 1; decide, by show (1 : Int) <= 16; decide⟩, ⟨by show (1 : Int) <= 4; decide, by show (4 : Int) <= 16; decide⟩, by show (4 : Int) <= 4; decide, .inr (.inr rfl), rfl, h, by decide, by decide⟩
end
def qCP : List (Int × Lk) := [(3, ⟨none, iJsr⟩), (4, ⟨none, iNop⟩), (5, ⟨none, iTr 1⟩), (6, ⟨none, iTr 0⟩)]
def qBG (lab : Option (List UInt8)) (a : Int) : List (Int × Lk) := [(1, ⟨lab, qCd a⟩)]
def k2Go : List (Int × Lk) := [(2, ⟨none, iJmp⟩), (3, ⟨none, iNop⟩)]
def qCQ (b : Int) : List (Int × Lk) := [(1, ⟨some qz, iRts⟩), (2, ⟨none, qCw b⟩)]
def qBh (gp : Nat) (ln a : Int) : List It := [qAI 1 3 0 0 a, qC5 2 24 1 0 0 (.slot gp 0), qAI 3 22 1 0 0, qAI 4 1 0 0 0, qAI 5 27 0 0 1, qAI 6 27 0 0 0, qFL ln 4, numI ln 4 qz 0]
def itsGo (gp : Nat) (ln : Int) : List It := [qC5 1 24 1 0 0 (.slot gp 0), qAI 2 21 1 0 0, qAI 3 1 0 0 0, qFL ln 4, numI ln 4 qd 0]
def qCW (b : Int) : List It := [qAI 1 2 0 0 0, qAI 2 4 0 0 b]
theorem its_main (gp : Nat) (lab : Option (List UInt8)) (a ln : Int) (h0 : -100 <= a) (h1 : a <= 100) : endI gp (qBG lab a) qCP 2 ln qz r1' = qBh gp ln a := by
 simp only [endI, midI, itsG, qBG, qCP, List.map_cons, List.map_nil, it_movS a _ h0 h1, it_jsr, it_nop, it_tr, askI, qCN]
 simp [qBh, wrap32]
theorem its_go (gp : Nat) (ln : Int) : endI gp [] k2Go 1 ln qd r1' = itsGo gp ln := by
 simp only [endI, midI, itsG, k2Go, List.map_cons, List.map_nil, it_jmp, it_nop, askI, qCN]
 rfl
theorem its_more (b : Int) (h0 : -100 <= b) (h1 : b <= 100) : itsG (qCQ b) = qCW b := by
 simp only [itsG, qCQ, List.map_cons, List.map_nil, it_rts, it_addS b _ h0 h1]
 rfl
def labM : Option (List UInt8) -> List (List UInt8 × Nat)
 | none => []
 | some nm => [(nm, 0)]
def symM : Option (List UInt8) -> List Sy
 | none => []
 | some nm => [⟨nm, 0⟩]
def qAR (lab : Option (List UInt8)) (a : Int) : Ob := ⟨Si.qI (Si.main4 a) ++ [0, 0, 0, 0], symM lab, [⟨12, 4, qz, 0⟩]⟩
def obGo : Ob := ⟨Si.qI Si.go4 ++ [0, 0, 0, 0, 0, 0], [], [⟨8, 4, qd, 0⟩]⟩
def qAg (b : Int) : Ob := ⟨Si.qI (Si.more4 b), [⟨qz, 0⟩], []⟩
theorem qHn (gp : Nat) (ln : Int) : (List.range 201).map (fun (i : Nat) => qBQ ⟨[], qBh gp ln ((i : Int) - 100), fun _ => 7⟩ [0, 2, 4, 6, 8, 10, 12, 12, 16] 0 [] [] (qBh gp ln ((i : Int) - 100))) = (List.range 201).map fun (i : Nat) => .ok (Si.qI (Si.main4 ((i : Int) - 100)) ++ [0, 0, 0, 0], [⟨12, 4, qz, 0⟩]) := by kernel_rfl
theorem qHk (gp : Nat) (ln : Int) : (List.range 201).map (fun (i : Nat) => qBQ ⟨[(qd, 0)], qBh gp ln ((i : Int) - 100), fun _ => 7⟩ [0, 2, 4, 6, 8, 10, 12, 12, 16] 0 [] [] (qBh gp ln ((i : Int) - 100))) = (List.range 201).map fun (i : Nat) => .ok (Si.qI (Si.main4 ((i : Int) - 100)) ++ [0, 0, 0, 0], [⟨12, 4, qz, 0⟩]) := by kernel_rfl
theorem qHD : (List.range 201).map (fun (i : Nat) => qBQ ⟨[(qz, 0)], qCW ((i : Int) - 100), fun _ => 0⟩ [0, 2, 4] 0 [] [] (qCW ((i : Int) - 100))) = (List.range 201).map fun (i : Nat) => .ok (Si.qI (Si.more4 ((i : Int) - 100)), []) := by kernel_rfl
theorem qEN (gp : Nat) (ln a : Int) : qAA 0 (qBh gp ln a) = [0, 2, 4, 6, 8, 10, 12, 12, 16] := by kernel_rfl
theorem qHv (gp : Nat) (ln : Int) : qAA 0 (itsGo gp ln) = [0, 2, 4, 6, 8, 12] := by kernel_rfl
theorem qEE (b : Int) : qAA 0 (qCW b) = [0, 2, 4] := by kernel_rfl
theorem qIN (w W : World) (gu mb gp gp' mi' : Nat) (lab : Option (List UInt8)) (hlab : lab = none \/ lab = some qd) (ln a : Int) (h0 : -100 <= a) (h1 : a <= 100) (hn : AlQ w W gu mb gp' mi' ln (qAp 0 (qBG lab a)) (endI gp (qBG lab a) qCP 2 ln qz r1') none (some (gp, 7))) : FinE W (qAp 0 (qBG lab a)) (fun _ => 7) (endI gp (qBG lab a) qCP 2 ln qz r1') (qAR lab a) := by
 have hlb : qAp 0 (qBG lab a) = labM lab := by rcases hlab with rfl | rfl <;> rfl
 have hits := its_main gp lab a ln h0 h1
 obtain ⟨vv, mv, hpo⟩ := hn.od gp 7 rfl
 rw [hlb, hits]
 have hall : ∀ i, i ∈ qBh gp ln a -> qEk W (fun _ => 7) 8 i := by
  intro i hi
  simp only [qBh, List.mem_cons, List.not_mem_nil, or_false] at hi
  have hask : (qC5 2 24 1 0 0 (.slot gp 0) : It) = askI gp 2 r1' := by unfold askI; rw [qCN]
  rcases hi with rfl | rfl | rfl | rfl | rfl | rfl | rfl | rfl
  ·exact qA9 _ _ _ _ _ _ _ _
  ·rw [hask]; exact qKt _ _ _ _ _ _ (by decide) ⟨vv, mv, hpo⟩
  ·exact qA9 _ _ _ _ _ _ _ _
  ·exact qA9 _ _ _ _ _ _ _ _
  ·exact qA9 _ _ _ _ _ _ _ _
  ·exact qA9 _ _ _ _ _ _ _ _
  ·exact qIf _ _ _ _
  ·exact qKf _ _ _ _ _ (by decide)
 have hw : qBQ ⟨labM lab, qBh gp ln a, fun _ => 7⟩ [0, 2, 4, 6, 8, 10, 12, 12, 16] 0 [] [] (qBh gp ln a) = .ok ((qAR lab a).code, (qAR lab a).rels) := by
  have e : (((a + 100).toNat : Nat) : Int) - 100 = a := by omega
  rcases hlab with rfl | rfl
  ·have := qDK (qHn gp ln) (a + 100).toNat (by omega)
   simp only [e] at this
   exact this
  ·have := qDK (qHk gp ln) (a + 100).toNat (by omega)
   simp only [e] at this
   exact this
 have hcl : (qAR lab a).code.length = 16 := by show (Si.qI (Si.main4 a) ++ [0, 0, 0, 0]).length = 16; rw [List.length_append, Si.qAz]; rfl
 refine ⟨hall, by show (8 : Nat) <= 1000; decide, ?_, ?_, ?_, by rw [qEN]; show (16 : Int) <= 8000; decide, by rw [qEN]; exact hw, ?_, ⟨by rw [hcl]; decide, by show (1 : Nat) <= 100000; decide⟩⟩
 ·intro nm k hk
  rcases hlab with rfl | rfl
  ·cases hk
  ·unfold labM qS at hk
   split at hk
   ·injection hk with hk; omega
   ·cases hk
 ·intro j hj
  rcases hlab with rfl | rfl
  ·simp [labM] at hj
  ·obtain rfl : j = 0 := by simp [labM] at hj; omega
   exact ⟨rfl, by show (5 : Nat) <= maxLen; decide⟩
 ·rcases hlab with rfl | rfl <;> decide
 ·rw [qEN]
  rcases hlab with rfl | rfl <;> rfl
theorem fin_go (w W : World) (gu mb gp gp' mi' : Nat) (ln : Int) (hn : AlQ w W gu mb gp' mi' ln [] (endI gp [] k2Go 1 ln qd r1') none (some (gp, 4))) : FinE W [] (fun _ => 4) (endI gp [] k2Go 1 ln qd r1') obGo := by
 have hits := its_go gp ln
 obtain ⟨vv, mv, hpo⟩ := hn.od gp 4 rfl
 rw [hits]
 have hall : ∀ i, i ∈ itsGo gp ln -> qEk W (fun _ => 4) 5 i := by
  intro i hi
  simp only [itsGo, List.mem_cons, List.not_mem_nil, or_false] at hi
  have hask : (qC5 1 24 1 0 0 (.slot gp 0) : It) = askI gp 1 r1' := by unfold askI; rw [qCN]
  rcases hi with rfl | rfl | rfl | rfl | rfl
  ·rw [hask]; exact qKt _ _ _ _ _ _ (by decide) ⟨vv, mv, hpo⟩
  ·exact qA9 _ _ _ _ _ _ _ _
  ·exact qA9 _ _ _ _ _ _ _ _
  ·exact qIf _ _ _ _
  ·exact qKf _ _ _ _ _ (by decide)
 refine ⟨hall, by show (5 : Nat) <= 1000; decide, by simp [qS], by simp, by simp, by rw [qHv]; show (12 : Int) <= 8000; decide, by rw [qHv]; kernel_rfl, by rw [qHv]; rfl, ⟨?_, by show (1 : Nat) <= 100000; decide⟩⟩
 show (Si.qI Si.go4 ++ [0, 0, 0, 0, 0, 0]).length <= 100000
 rw [List.length_append, Si.qBf]
 decide
theorem fin_more (W : World) (b : Int) (h0 : -100 <= b) (h1 : b <= 100) : FinE W (qAp 0 (qCQ b)) (fun _ => 0) (itsG (qCQ b)) (qAg b) := by
 have hlb : qAp 0 (qCQ b) = [(qz, 0)] := rfl
 rw [hlb, its_more b h0 h1]
 have hall : ∀ i, i ∈ qCW b -> qEk W (fun _ => 0) 2 i := by
  intro i hi
  simp only [qCW, List.mem_cons, List.not_mem_nil, or_false] at hi
  rcases hi with rfl | rfl <;> exact qA9 _ _ _ _ _ _ _ _
 have hw : qBQ ⟨[(qz, 0)], qCW b, fun _ => 0⟩ [0, 2, 4] 0 [] [] (qCW b) = .ok ((qAg b).code, (qAg b).rels) := by
  have e : (((b + 100).toNat : Nat) : Int) - 100 = b := by omega
  have := qDK qHD (b + 100).toNat (by omega)
  simp only [e] at this
  exact this
 refine ⟨hall, by show (2 : Nat) <= 1000; decide, ?_, ?_, by decide, by rw [qEE]; show (4 : Int) <= 8000; decide, by rw [qEE]; exact hw, by rw [qEE]; rfl, ⟨?_, by show (0 : Nat) <= 100000; decide⟩⟩
 ·intro nm k hk
  unfold qS at hk
  split at hk
  ·injection hk with hk; omega
  ·cases hk
 ·intro j hj
  obtain rfl : j = 0 := by simp at hj; omega
  exact ⟨rfl, by show (4 : Nat) <= maxLen; decide⟩
 ·show (Si.qI (Si.more4 b)).length <= 100000
  rw [Si.qBO]
  decide
end Go.Proofs.YtfmljailbebfgaaGreatDoor
namespace Go.Proofs.YtfmljailbebfgaaGreatDoor
open Go.RowKit
end Go.Proofs.YtfmljailbebfgaaGreatDoor
namespace Go.Proofs.YtfmljailbebfgaaGreatDoor
open Go.RowKit Go.Maps Go.MapKept
end Go.Proofs.YtfmljailbebfgaaGreatDoor
