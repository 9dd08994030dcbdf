/- asm: the three lines read. asm: the first of the three lines read: a label, and a load off the pool. asm: the lines of a branch and of what it leads over, read. asm: operands as data: registers, numbers, names, each read; a line of an instruction, with or without a label. asm: an operand that is a number, below nought or not. The source of AsmFar, and its lines: functions of lists; no program in this text. -/
import Derived.Test.YtjmjhbdlbmnllaaGreatDoorPut45
import Derived.Test.YtjmjhbdlbmnllaaGreatDoorPut40
import Derived.Test.YtjmjhbdlbmnllaaGreatDoorPut34
import Derived.Test.YtjmjhbdlbmnllaaGreatDoorPut37
import Derived.Test.YtjmjhbdlbmnllaaGreatDoorPut25
namespace Go.Proofs.YtjmjhbdlbmnllaaGreatDoor
open Go.RowKit Go.Maps Go.MapKept

/-- What lies in memory from the beginning. -/
structure AllLaid (w : World) : Prop where
  isa : Isa.Laid w
  frm : FLaid w
  ex : Xp.KLaid w
  gl : Sc.Glob w

end Go.Proofs.YtjmjhbdlbmnllaaGreatDoor

namespace Go.Proofs.YtjmjhbdlbmnllaaGreatDoor
open Go.RowKit Go.Maps Go.MapKept

end Go.Proofs.YtjmjhbdlbmnllaaGreatDoor

namespace Go.Proofs.YtjmjhbdlbmnllaaGreatDoor
open Go.RowKit Go.Maps Go.MapKept

def tkComma : Tk := ⟨3, 0, ⟨#[44]⟩⟩
theorem isc_comma : isComma tkComma = true := by simp [isComma, tkComma, ByteArray.toList_eq]
theorem UR.same {W : World} {gu : Nat} {B : Nat} {e : Value} {ln : Int} {nv nv' lm pp pv rv : Value} {its : List It} (hn : UR W B gu e ln nv' lm pp pv rv its) (hu : UR W B gu e ln nv lm pp pv rv its) : nv' = nv := by
  obtain ⟨i1, l1, a1, _⟩ := hn.its
  obtain ⟨i2, l2, a2, _⟩ := hu.its
  have e := a1.symm.trans a2
  injection e with e
  injection e with e _
  have e2 := congrArg (fun a : Array Value => a[2]?) e
  simpa [uC] using e2

section
variable (w W : World) (gu mb gp mi : Nat) (v : Value) (ln : Int) (labs : List (List UInt8 × Nat)) (its : List It)

end

end Go.Proofs.YtjmjhbdlbmnllaaGreatDoor

namespace Go.Proofs.YtjmjhbdlbmnllaaGreatDoor
open Go.RowKit Go.Maps Go.MapKept

inductive OpK where
  | reg (t : List UInt8)
  | num (n : Int)
  | neg (n : Int)
  | ind (t : List UInt8)
  | pool (nm : List UInt8)
  | name (nm : List UInt8)
def wd (t : List UInt8) : Tk := ⟨1, 0, ⟨t.toArray⟩⟩
def sg (c : UInt8) : Tk := ⟨3, 0, ⟨#[c]⟩⟩
def OpK.toks : OpK → List Tk
  | .reg t => [wd t]
  | .num n => [sg 35, tkNum n]
  | .neg n => [sg 35, sg 45, tkNum n]
  | .ind t => [sg 64, wd t]
  | .pool nm => [sg 61, wd nm]
  | .name nm => [wd nm]
def OpK.opd : OpK → Opd
  | .reg t => ⟨⟨#[114]⟩, regU 1 t, ⟨#[]⟩, 0⟩
  | .num n => ⟨⟨#[35]⟩, 0, ⟨#[]⟩, wrap32 n⟩
  | .neg n => ⟨⟨#[35]⟩, 0, ⟨#[]⟩, wrap32 (-wrap32 n)⟩
  | .ind t => ⟨⟨#[64]⟩, regU 1 t, ⟨#[]⟩, 0⟩
  | .pool nm => ⟨⟨#[61]⟩, 0, ⟨nm.toArray⟩, 0⟩
  | .name nm => ⟨⟨#[112]⟩, 0, ⟨nm.toArray⟩, 0⟩
def OpK.ok : OpK → Prop
  | .reg t => 0 ≤ regU 1 t
  | .num _ => True
  | .neg _ => True
  | .ind t => 0 ≤ regU 1 t
  | .pool nm => Xp.nameR nm = true
  | .name nm => Xp.nameR nm = true ∧ regU 1 nm < 0

theorem opk_any (k : OpK) (hk : k.ok) (gu : Nat) (v : Value) (w : World) (hL : Xp.KLaid w) (hG : Sc.Glob w) (h : PReads w v k.toks) (c0 : w.cell? ⟨gu, 0, none⟩ = some (.slice none 0 0)) :
    Calls Tryz.prog 99 #[.pointer (some ⟨gu, 0, none⟩), v] w fun r w' => r = .returned (.tuple #[k.opd.V, .int .i64 0]) ∧ Below w.heap.size w w' := by
  cases k with
  | reg t => have := operand_reg gu v (wd t) w hG h rfl (by simpa [wd, OpK.ok] using hk); simpa [OpK.opd, Opd.V, wd] using this
  | num n => exact operand_num gu v 0 (tkNum n) ⟨#[]⟩ (wrap32 n) (.inl ⟨rfl, rfl, rfl⟩) w hL h c0
  | neg n => exact operand_neg gu v 0 n ⟨#[]⟩ w hL h c0
  | ind t => have := operand_at gu v 0 (wd t) w hG h rfl (by simpa [wd, OpK.ok] using hk); simpa [OpK.opd, Opd.V, wd] using this
  | pool nm => exact operand_pool gu v 0 (wd nm) ⟨nm.toArray⟩ 0 (.inr ⟨rfl, rfl, rfl, by simpa [wd, OpK.ok] using hk⟩) w hL h c0
  | name nm => exact operand_atom gu v (wd nm) ⟨nm.toArray⟩ 0 (.inr ⟨rfl, rfl, rfl, by simpa [wd] using hk.1⟩) w hL hG h c0 (by simpa [wd] using hk.2)

/-- Operands with commas between. -/
def joinK : List OpK → List Tk
  | [] => []
  | [a] => a.toks
  | a :: b :: r => a.toks ++ (tkComma :: joinK (b :: r))
theorem split_app : ∀ (a cur r : List Tk), (∀ x, x ∈ a → isComma x = false) → splitT cur (a ++ r) = splitT (cur ++ a) r
  | [], cur, r, _ => by simp
  | x :: a, cur, r, h => by
    rw [List.cons_append, splitT, if_neg (by rw [h x (by simp)]; decide), split_app a _ r fun y hy => h y (by simp [hy]), List.append_assoc]
    rfl
theorem sg_comma (c : UInt8) (h : c ≠ 44) : isComma (sg c) = false := by
  simp [isComma, sg, ByteArray.toList_eq, h]
theorem toks_comma (k : OpK) : ∀ x, x ∈ k.toks → isComma x = false := by
  intro x hx
  cases k with
  | reg t => simp only [OpK.toks, List.mem_singleton] at hx; subst hx; rfl
  | num n =>
    simp only [OpK.toks, List.mem_cons, List.not_mem_nil, or_false] at hx
    rcases hx with rfl | rfl
    · exact sg_comma 35 (by decide)
    · rfl
  | neg n =>
    simp only [OpK.toks, List.mem_cons, List.not_mem_nil, or_false] at hx
    rcases hx with rfl | rfl | rfl
    · exact sg_comma 35 (by decide)
    · exact sg_comma 45 (by decide)
    · rfl
  | ind t =>
    simp only [OpK.toks, List.mem_cons, List.not_mem_nil, or_false] at hx
    rcases hx with rfl | rfl
    · exact sg_comma 64 (by decide)
    · rfl
  | pool t =>
    simp only [OpK.toks, List.mem_cons, List.not_mem_nil, or_false] at hx
    rcases hx with rfl | rfl
    · exact sg_comma 61 (by decide)
    · rfl
  | name t => simp only [OpK.toks, List.mem_singleton] at hx; subst hx; rfl
theorem join_split : ∀ l : List OpK, l ≠ [] → splitT [] (joinK l) = l.map OpK.toks
  | [], h => absurd rfl h
  | [a], _ => by
    have := split_app a.toks [] [] (toks_comma a)
    rw [List.append_nil] at this
    rw [joinK, this]
    simp [splitT]
  | a :: b :: r, _ => by
    rw [joinK, split_app _ _ _ (toks_comma a), splitT, if_pos isc_comma, join_split (b :: r) (by simp), List.nil_append]
    rfl
theorem toks_ne (k : OpK) : k.toks ≠ [] := by cases k <;> simp [OpK.toks]
theorem toks_len (k : OpK) : k.toks.length ≤ 3 := by cases k <;> simp [OpK.toks]
theorem join_ne (a : OpK) (r : List OpK) : joinK (a :: r) ≠ [] := by
  cases r with
  | nil => exact toks_ne a
  | cons b r => simp [joinK]
theorem join_pieces (l : List OpK) : piecesT (joinK l) = l.map OpK.toks := by
  cases l with
  | nil => simp [piecesT, joinK]
  | cons a r => rw [piecesT, if_neg (join_ne a r), join_split _ (by simp)]
theorem join_len : ∀ l : List OpK, (joinK l).length ≤ 4 * l.length
  | [] => by simp [joinK]
  | [a] => by have := toks_len a; simp [joinK]; omega
  | a :: b :: r => by
    have := join_len (b :: r)
    have := toks_len a
    simp only [joinK, List.length_append, List.length_cons] at *
    omega

theorem ops_any (l : List OpK) (hl : ∀ k, k ∈ l → k.ok) (hn : l.length ≤ 100) (gu : Nat) (v : Value) (w : World) (hL : Xp.KLaid w) (hG : Sc.Glob w) (h : PReads w v (joinK l)) (c0 : w.cell? ⟨gu, 0, none⟩ = some (.slice none 0 0)) :
    Calls Tryz.prog 55 #[.pointer (some ⟨gu, 0, none⟩), v] w fun r w' => (∃ oa oc, r = .returned (.tuple #[.slice oa (l.map OpK.opd).length oc, .int .i64 0]) ∧ OpsR w' oa (l.map OpK.opd)) ∧ Below w.heap.size w w' := by
  have hpc := join_pieces l
  refine (operands_any gu v (joinK l) (l.map OpK.opd) w h (by have := join_len l; omega) (by rw [hpc]; simp) ?_).mono ?_
  · intro i hi u X hb hu
    have hi' : i < l.length := by simpa using hi
    have hu2 : PReads X u l[i].toks := by simpa [hpc] using hu
    have := opk_any l[i] (hl _ (List.getElem_mem _)) gu u X (KL.below hL hb) (hG.below hb hG.sz) hu2 (by rw [hb.cell (World.block_lt_of_cell? w _ c0)]; exact c0)
    simpa using this
  · rintro r w' ⟨⟨ov, rfl, hr⟩, hb⟩
    obtain ⟨oa, oc, hov⟩ := row_shape hr
    subst hov
    exact ⟨⟨oa, oc, rfl, OpsR.of_row hr⟩, hb⟩

/-- What an instruction is. -/
structure Ins where
  name : List UInt8
  ops : List OpK
  op : Int
def Ins.toks (i : Ins) : List Tk := wd i.name :: joinK i.ops
def Ins.fill (i : Ins) := (i.ops.map OpK.opd).foldl fillU ⟨i.op, 0, 0, 0⟩
structure Ins.Ok (i : Ins) : Prop where
  name : i.name ∉ dirs
  ops : ∀ k, k ∈ i.ops → k.ok
  n : i.ops.length ≤ 100
  pool : formU (i.ops.map OpK.opd) ≠ [61, 114]
  found : findU ⟨i.name.toArray⟩ ⟨(formU (i.ops.map OpK.opd)).toArray⟩ 12 0 = i.op
  op : i.op ≠ 0
  right : Isa.wrongI i.fill.op i.fill.n i.fill.m i.fill.imm = 0
  lab : labelled i.toks = false
def Ins.it (i : Ins) (ln : Int) : It := match i.ops with
  | .name nm :: _ => leadI ln i.fill.op i.fill.n i.fill.m i.fill.imm (.val nm 0)
  | _ => plainI ln i.fill.op i.fill.n i.fill.m i.fill.imm

theorem kd_one (k : OpK) : k.opd.kd.data.toList.length = 1 := by cases k <;> rfl
theorem kd_nm (k : OpK) : k.opd.kd.toList = kdN → k.opd.nm = ⟨#[]⟩ := by
  cases k <;> simp [OpK.opd, ByteArray.toList_eq, kdN]

section
variable (w : World) (gu mb gp mi : Nat) (ln : Int) (labs : List (List UInt8 × Nat)) (its : List It)

end

end Go.Proofs.YtjmjhbdlbmnllaaGreatDoor

namespace Go.Proofs.YtjmjhbdlbmnllaaGreatDoor
open Go.RowKit

def opS (a : Int) : OpK := if a < 0 then .neg (-a) else .num a
theorem ok_opS (a : Int) : (opS a).ok := by unfold opS; split <;> trivial

end Go.Proofs.YtjmjhbdlbmnllaaGreatDoor

namespace Go.Proofs.YtjmjhbdlbmnllaaGreatDoor
open Go.RowKit

/-- A line that is read as these tokens. -/
def OkL (l : List UInt8) (ts : List Sc.Tok) : Prop := Sc.lineErr l = 0 ∧ Sc.lineList l = ts ∧ ts ≠ [] ∧ (∀ c, c ∈ l → c ≠ 10) ∧ l.length ≤ 80

def numLn : Nat → List (List Sc.Tok) → List Sc.Ln
  | _, [] => []
  | k, t :: r => ⟨k, t⟩ :: numLn (k + 1) r
theorem lines_of : ∀ (l : List (List UInt8 × List Sc.Tok)) (k : Nat), (∀ a, a ∈ l → OkL a.1 a.2) → Sc.linesR k (l.map (·.1) ++ [[]]) = .ok (numLn k (l.map (·.2)))
  | [], k, _ => rfl
  | a :: r, k, h => by
    have ih := lines_of r (k + 1) fun b hb => h b (by simp [hb])
    obtain ⟨e1, e2, e3, _⟩ := h a (by simp)
    rw [List.map_cons, List.cons_append, Sc.linesR, if_pos e1, ih, e2]
    simp [numLn, e3]
theorem split_of : ∀ l : List (List UInt8 × List Sc.Tok), (∀ a, a ∈ l → OkL a.1 a.2) → Sc.splitNL (l.flatMap fun a => a.1 ++ [10]) = l.map (·.1) ++ [[]]
  | [], _ => rfl
  | a :: r, h => by
    have ih := split_of r fun b hb => h b (by simp [hb])
    have e : (a :: r).flatMap (fun a => a.1 ++ [10]) = a.1 ++ 10 :: r.flatMap (fun a => a.1 ++ [10]) := by simp
    rw [e, Sc.split_one _ _ (h a (by simp)).2.2.2.1, ih]
    rfl
def nopL : List UInt8 := [110, 111, 112]
def nopT : List Sc.Tok := [⟨1, 0, [110, 111, 112]⟩]
theorem ok_nop : OkL nopL nopT := ⟨by kernel_rfl, by kernel_rfl, by simp [nopT], by decide, by decide⟩
end Go.Proofs.YtjmjhbdlbmnllaaGreatDoor
