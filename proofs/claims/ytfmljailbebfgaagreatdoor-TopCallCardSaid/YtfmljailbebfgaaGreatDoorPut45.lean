import Derived.Test.YtfmljailbebfgaaGreatDoorPut44
import Derived.Test.YtfmljailbebfgaaGreatDoorPut38
namespace Go.Proofs.YtfmljailbebfgaaGreatDoor
open Go.RowKit
end Go.Proofs.YtfmljailbebfgaaGreatDoor
namespace Go.Proofs.YtfmljailbebfgaaGreatDoor
open Go.RowKit Go.Maps Go.MapKept
def qFK : Tk := ⟨3, 0, ⟨#[44]⟩⟩
theorem qKU : qBt qFK = true := by simp [qBt, qFK, ByteArray.toList_eq]
theorem UR.same {W : World} {gu : Nat} {B : Nat} {e : Value} {ln : Int} {nv nv' lm pp pv rv : Value} {its : List It} (hn : UR W B gu e ln nv' lm pp pv rv its) (hu : UR W B gu e ln nv lm pp pv rv its) : nv' = nv := by
 obtain ⟨i1, l1, a1, _⟩ := hn.its
 obtain ⟨i2, l2, a2, _⟩ := hu.its
 have e := a1.symm.trans a2
 injection e with e
 injection e with e _
 have e2 := congrArg (fun a : Array Value => a[2]?) e
 simpa [uC] using e2
section
variable (w W : World) (gu mb gp mi : Nat) (v : Value) (ln : Int) (labs : List (List UInt8 × Nat)) (its : List It)
theorem find_bf : qBy ⟨#[98, 102]⟩ ⟨#[112]⟩ 12 0 = 18 := by
 rw [qBK]
 kernel_rfl
end
inductive OpK where
 | reg (t : List UInt8)
 | num (n : Int)
 | neg (n : Int)
 | ind (t : List UInt8)
 | pool (nm : List UInt8)
 | name (nm : List UInt8)
def wd (t : List UInt8) : Tk := ⟨1, 0, ⟨t.toArray⟩⟩
def sg (c : UInt8) : Tk := ⟨3, 0, ⟨#[c]⟩⟩
def OpK.toks : OpK -> List Tk
 | .reg t => [wd t]
 | .num n => [sg 35, tkNum n]
 | .neg n => [sg 35, sg 45, tkNum n]
 | .ind t => [sg 64, wd t]
 | .pool nm => [sg 61, wd nm]
 | .name nm => [wd nm]
def OpK.opd : OpK -> Opd
 | .reg t => ⟨⟨#[114]⟩, regU 1 t, ⟨#[]⟩, 0⟩
 | .num n => ⟨⟨#[35]⟩, 0, ⟨#[]⟩, wrap32 n⟩
 | .neg n => ⟨⟨#[35]⟩, 0, ⟨#[]⟩, wrap32 (-wrap32 n)⟩
 | .ind t => ⟨⟨#[64]⟩, regU 1 t, ⟨#[]⟩, 0⟩
 | .pool nm => ⟨⟨#[61]⟩, 0, ⟨nm.toArray⟩, 0⟩
 | .name nm => ⟨⟨#[112]⟩, 0, ⟨nm.toArray⟩, 0⟩
def OpK.ok : OpK -> Prop
 | .reg t => 0 <= regU 1 t
 | .num _ => True
 | .neg _ => True
 | .ind t => 0 <= regU 1 t
 | .pool nm => Xp.qO nm = true
 | .name nm => Xp.qO nm = true /\ regU 1 nm < 0
theorem opk_any (k : OpK) (hk : k.ok) (gu : Nat) (v : Value) (w : World) (hL : Xp.qAt w) (hG : Sc.Glob w) (h : qK w v k.toks) (c0 : w.cell? ⟨gu, 0, none⟩ = some (.slice none 0 0)) :
  Calls Tryz.prog 133 #[.pointer (some ⟨gu, 0, none⟩), v] w fun r w' => r = .returned (.tuple #[k.opd.V, .int .i64 0]) /\ Below w.heap.size w w' := by
 cases k with
 | reg t => have := qHo gu v (wd t) w hG h rfl (by simpa [wd, OpK.ok] using hk); simpa [OpK.opd, Opd.V, wd] using this
 | num n => exact qHt gu v 0 (tkNum n) ⟨#[]⟩ (wrap32 n) (.inl ⟨rfl, rfl, rfl⟩) w hL h c0
 | neg n => exact qHq gu v 0 n ⟨#[]⟩ w hL h c0
 | ind t => have := qJg gu v 0 (wd t) w hG h rfl (by simpa [wd, OpK.ok] using hk); simpa [OpK.opd, Opd.V, wd] using this
 | pool nm => exact qGK gu v 0 (wd nm) ⟨nm.toArray⟩ 0 (.inr ⟨rfl, rfl, rfl, by simpa [wd, OpK.ok] using hk⟩) w hL h c0
 | name nm => exact qG4 gu v (wd nm) ⟨nm.toArray⟩ 0 (.inr ⟨rfl, rfl, rfl, by simpa [wd] using hk.1⟩) w hL hG h c0 (by simpa [wd] using hk.2)
def qBd : List OpK -> List Tk
 | [] => []
 | [a] => a.toks
 | a :: b :: r => a.toks ++ (qFK :: qBd (b :: r))
theorem qEc : ∀ (a cur r : List Tk), (∀ x, x ∈ a -> qBt x = false) -> qAa cur (a ++ r) = qAa (cur ++ a) r
 | [], cur, r, _ => by simp
 | x :: a, cur, r, h => by
   rw [List.cons_append, qAa, if_neg (by rw [h x (by simp)]; decide), qEc a _ r fun y hy => h y (by simp [hy]), List.append_assoc]
   rfl
theorem qDD (c : UInt8) (h : c ≠ 44) : qBt (sg c) = false := by
 simp [qBt, sg, ByteArray.toList_eq, h]
theorem qE1 (k : OpK) : ∀ x, x ∈ k.toks -> qBt x = false := by
 intro x hx
 cases k with
 | reg t => simp only [OpK.toks, List.mem_singleton] at hx; subst hx; rfl
 | num n =>
   simp only [OpK.toks, List.mem_cons, List.not_mem_nil, or_false] at hx
   rcases hx with rfl | rfl
   ·exact qDD 35 (by decide)
   ·rfl
 | neg n =>
   simp only [OpK.toks, List.mem_cons, List.not_mem_nil, or_false] at hx
   rcases hx with rfl | rfl | rfl
   ·exact qDD 35 (by decide)
   ·exact qDD 45 (by decide)
   ·rfl
 | ind t =>
   simp only [OpK.toks, List.mem_cons, List.not_mem_nil, or_false] at hx
   rcases hx with rfl | rfl
   ·exact qDD 64 (by decide)
   ·rfl
 | pool t =>
   simp only [OpK.toks, List.mem_cons, List.not_mem_nil, or_false] at hx
   rcases hx with rfl | rfl
   ·exact qDD 61 (by decide)
   ·rfl
 | name t => simp only [OpK.toks, List.mem_singleton] at hx; subst hx; rfl
theorem qFG : ∀ l : List OpK, l ≠ [] -> qAa [] (qBd l) = l.map OpK.toks
 | [], h => absurd rfl h
 | [a], _ => by
   have := qEc a.toks [] [] (qE1 a)
   rw [List.append_nil] at this
   rw [qBd, this]
   simp [qAa]
 | a :: b :: r, _ => by
   rw [qBd, qEc _ _ _ (qE1 a), qAa, if_pos qKU, qFG (b :: r) (by simp), List.nil_append]
   rfl
theorem qLz (k : OpK) : k.toks ≠ [] := by cases k <;> simp [OpK.toks]
theorem qIH (k : OpK) : k.toks.length <= 3 := by cases k <;> simp [OpK.toks]
theorem join_ne (a : OpK) (r : List OpK) : qBd (a :: r) ≠ [] := by
 cases r with
 | nil => exact qLz a
 | cons b r => simp [qBd]
theorem qH0 (l : List OpK) : qBu (qBd l) = l.map OpK.toks := by
 cases l with
 | nil => simp [qBu, qBd]
 | cons a r => rw [qBu, if_neg (join_ne a r), qFG _ (by simp)]
theorem qH9 : ∀ l : List OpK, (qBd l).length <= 4 * l.length
 | [] => by simp [qBd]
 | [a] => by have := qIH a; simp [qBd]; omega
 | a :: b :: r => by
   have := qH9 (b :: r)
   have := qIH a
   simp only [qBd, List.length_append, List.length_cons] at *
   omega
theorem qLf (l : List OpK) (hl : ∀ k, k ∈ l -> k.ok) (hn : l.length <= 100) (gu : Nat) (v : Value) (w : World) (hL : Xp.qAt w) (hG : Sc.Glob w) (h : qK w v (qBd l)) (c0 : w.cell? ⟨gu, 0, none⟩ = some (.slice none 0 0)) :
  Calls Tryz.prog 94 #[.pointer (some ⟨gu, 0, none⟩), v] w fun r w' => (∃ oa oc, r = .returned (.tuple #[.slice oa (l.map OpK.opd).length oc, .int .i64 0]) /\ OpsR w' oa (l.map OpK.opd)) /\ Below w.heap.size w w' := by
 have hpc := qH0 l
 refine (qCi gu v (qBd l) (l.map OpK.opd) w h (by have := qH9 l; omega) (by rw [hpc]; simp) ?_).mono ?_
 ·intro i hi u X hb hu
  have hi' : i < l.length := by simpa using hi
  have hu2 : qK X u l[i].toks := by simpa [hpc] using hu
  have := opk_any l[i] (hl _ (List.getElem_mem _)) gu u X (KL.below hL hb) (hG.below hb hG.sz) hu2 (by rw [hb.cell (World.block_lt_of_cell? w _ c0)]; exact c0)
  simpa using this
 ·rintro r w' ⟨⟨ov, rfl, hr⟩, hb⟩
  obtain ⟨oa, oc, hov⟩ := qG hr
  subst hov
  exact ⟨⟨oa, oc, rfl, OpsR.of_row hr⟩, hb⟩
structure Ins where
 name : List UInt8
 ops : List OpK
 op : Int
def Ins.toks (i : Ins) : List Tk := wd i.name :: qBd i.ops
def Ins.fill (i : Ins) := (i.ops.map OpK.opd).foldl qV ⟨i.op, 0, 0, 0⟩
structure Ins.Ok (i : Ins) : Prop where
 name : i.name ∉ dirs
 ops : ∀ k, k ∈ i.ops -> k.ok
 n : i.ops.length <= 100
 pool : qAV (i.ops.map OpK.opd) ≠ [61, 114]
 found : qBy ⟨i.name.toArray⟩ ⟨(qAV (i.ops.map OpK.opd)).toArray⟩ 12 0 = i.op
 op : i.op ≠ 0
 right : Isa.qW i.fill.op i.fill.n i.fill.m i.fill.imm = 0
 lab : labelled i.toks = false
def Ins.it (i : Ins) (ln : Int) : It := match i.ops with
 | .name nm :: _ => qC5 ln i.fill.op i.fill.n i.fill.m i.fill.imm (.val nm 0)
 | _ => qAI ln i.fill.op i.fill.n i.fill.m i.fill.imm
theorem kd_one (k : OpK) : k.opd.kd.data.toList.length = 1 := by cases k <;> rfl
theorem kd_nm (k : OpK) : k.opd.kd.toList = kdN -> k.opd.nm = ⟨#[]⟩ := by
 cases k <;> simp [OpK.opd, ByteArray.toList_eq, kdN]
section
variable (w : World) (gu mb gp mi : Nat) (ln : Int) (labs : List (List UInt8 × Nat)) (its : List It)
end
end Go.Proofs.YtfmljailbebfgaaGreatDoor
namespace Go.Proofs.YtfmljailbebfgaaGreatDoor
open Go.RowKit
def OkL (l : List UInt8) (ts : List Sc.Tok) : Prop := Sc.qAU l = 0 /\ Sc.qt l = ts /\ ts ≠ [] /\ (∀ c, c ∈ l -> c ≠ 10) /\ l.length <= 80
def qCv : Nat -> List (List Sc.Tok) -> List Sc.Ln
 | _, [] => []
 | k, t :: r => ⟨k, t⟩ :: qCv (k + 1) r
theorem qFs : ∀ (l : List (List UInt8 × List Sc.Tok)) (k : Nat), (∀ a, a ∈ l -> OkL a.1 a.2) -> Sc.qAl k (l.map (·.1) ++ [[]]) = .ok (qCv k (l.map (·.2)))
 | [], k, _ => rfl
 | a :: r, k, h => by
   have ih := qFs r (k + 1) fun b hb => h b (by simp [hb])
   obtain ⟨e1, e2, e3, _⟩ := h a (by simp)
   rw [List.map_cons, List.cons_append, Sc.qAl, if_pos e1, ih, e2]
   simp [qCv, e3]
theorem qFO : ∀ l : List (List UInt8 × List Sc.Tok), (∀ a, a ∈ l -> OkL a.1 a.2) -> Sc.qo (l.flatMap fun a => a.1 ++ [10]) = l.map (·.1) ++ [[]]
 | [], _ => rfl
 | a :: r, h => by
   have ih := qFO r fun b hb => h b (by simp [hb])
   have e : (a :: r).flatMap (fun a => a.1 ++ [10]) = a.1 ++ 10 :: r.flatMap (fun a => a.1 ++ [10]) := by simp
   rw [e, Sc.qGb _ _ (h a (by simp)).2.2.2.1, ih]
   rfl
theorem len_of : ∀ l : List (List UInt8 × List Sc.Tok), (∀ a, a ∈ l -> OkL a.1 a.2) -> (l.flatMap fun a => a.1 ++ [10]).length <= 81 * l.length
 | [], _ => by simp
 | a :: r, h => by
   have ih := len_of r fun b hb => h b (by simp [hb])
   have := (h a (by simp)).2.2.2.2
   rw [List.flatMap_cons, List.length_append, List.length_append, List.length_cons]
   simp only [List.length_cons, List.length_nil]
   omega
theorem src_of (l : List (List UInt8 × List Sc.Tok)) (h : ∀ a, a ∈ l -> OkL a.1 a.2) (hl : l.length <= 14) : Sc.qAc (l.flatMap fun a => a.1 ++ [10]) = .ok (qCv 1 (l.map (·.2))) := by
 unfold Sc.qAc
 rw [if_neg (by have := len_of l h; omega), qFO l h]
 exact qFs l 1 h
def nopL : List UInt8 := [110, 111, 112]
def nopT : List Sc.Tok := [⟨1, 0, [110, 111, 112]⟩]
theorem ok_nop : OkL nopL nopT := ⟨by kernel_rfl, by kernel_rfl, by simp [nopT], by decide, by decide⟩
end Go.Proofs.YtfmljailbebfgaaGreatDoor
