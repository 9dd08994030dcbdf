import Derived.Test.YtfmljailbebfgaaGreatDoorPut44
namespace Go.Proofs.YtfmljailbebfgaaGreatDoor
open Go.RowKit Go.Maps Go.MapKept
inductive OpK where
 | reg (t : List UInt8)
 | num (n : Int)
 | ind (t : List UInt8)
 | pool (nm : List UInt8)
 | name (nm : List UInt8)
def wd (t : List UInt8) : Tk := ⟨1, 0, ⟨t.toArray⟩⟩
def sg (c : UInt8) : Tk := ⟨3, 0, ⟨#[c]⟩⟩
def OpK.toks : OpK -> List Tk
 | .reg t => [wd t]
 | .num n => [sg 35, qEJ n]
 | .ind t => [sg 64, wd t]
 | .pool nm => [sg 61, wd nm]
 | .name nm => [wd nm]
def OpK.opd : OpK -> Opd
 | .reg t => ⟨⟨#[114]⟩, regU 1 t, ⟨#[]⟩, 0⟩
 | .num n => ⟨⟨#[35]⟩, 0, ⟨#[]⟩, wrap32 n⟩
 | .ind t => ⟨⟨#[64]⟩, regU 1 t, ⟨#[]⟩, 0⟩
 | .pool nm => ⟨⟨#[61]⟩, 0, ⟨nm.toArray⟩, 0⟩
 | .name nm => ⟨⟨#[112]⟩, 0, ⟨nm.toArray⟩, 0⟩
def OpK.ok : OpK -> Prop
 | .reg t => 0 <= regU 1 t
 | .num _ => True
 | .ind t => 0 <= regU 1 t
 | .pool nm => Xp.qO nm = true
 | .name nm => Xp.qO nm = true /\ regU 1 nm < 0
theorem opk_any (k : OpK) (hk : k.ok) (gu : Nat) (v : Value) (w : World) (hL : Xp.qBQ w) (hG : Sc.Glob w) (h : qJ w v k.toks) (c0 : w.cell? ⟨gu, 0, none⟩ = some (.slice none 0 0)) :
  Calls Tryz.prog 133 #[.pointer (some ⟨gu, 0, none⟩), v] w fun r w' => r = .returned (.tuple #[k.opd.V, .int .i64 0]) /\ Below w.heap.size w w' := by
 cases k with
 | reg t => have := qHb gu v (wd t) w hG h rfl (by simpa [wd, OpK.ok] using hk); simpa [OpK.opd, Opd.V, wd] using this
 | num n => exact qHk gu v 0 (qEJ n) ⟨#[]⟩ (wrap32 n) (.inl ⟨rfl, rfl, rfl⟩) w hL h c0
 | ind t => have := qJw gu v 0 (wd t) w hG h rfl (by simpa [wd, OpK.ok] using hk); simpa [OpK.opd, Opd.V, wd] using this
 | pool nm => exact qGO gu v 0 (wd nm) ⟨nm.toArray⟩ 0 (.inr ⟨rfl, rfl, rfl, by simpa [wd, OpK.ok] using hk⟩) w hL h c0
 | name nm => exact qDg gu v (wd nm) ⟨nm.toArray⟩ 0 (.inr ⟨rfl, rfl, rfl, by simpa [wd] using hk.1⟩) w hL hG h c0 (by simpa [wd] using hk.2)
def qBY : List OpK -> List Tk
 | [] => []
 | [a] => a.toks
 | a :: b :: r => a.toks ++ (qFn :: qBY (b :: r))
theorem qES : ∀ (a cur r : List Tk), (∀ x, x ∈ a -> qBW x = false) -> qAS cur (a ++ r) = qAS (cur ++ a) r
 | [], cur, r, _ => by simp
 | x :: a, cur, r, h => by
   rw [List.cons_append, qAS, if_neg (by rw [h x (by simp)]; decide), qES a _ r fun y hy => h y (by simp [hy]), List.append_assoc]
   rfl
theorem qFb (c : UInt8) (h : c ≠ 44) : qBW (sg c) = false := by
 simp [qBW, sg, ByteArray.toList_eq, h]
theorem qFL (k : OpK) : ∀ x, x ∈ k.toks -> qBW x = false := by
 intro x hx
 cases k with
 | reg t => simp only [OpK.toks, List.mem_singleton] at hx; subst hx; rfl
 | num n =>
   simp only [OpK.toks, List.mem_cons, List.not_mem_nil, or_false] at hx
   rcases hx with rfl | rfl
   ·exact qFb 35 (by decide)
   ·rfl
 | ind t =>
   simp only [OpK.toks, List.mem_cons, List.not_mem_nil, or_false] at hx
   rcases hx with rfl | rfl
   ·exact qFb 64 (by decide)
   ·rfl
 | pool t =>
   simp only [OpK.toks, List.mem_cons, List.not_mem_nil, or_false] at hx
   rcases hx with rfl | rfl
   ·exact qFb 61 (by decide)
   ·rfl
 | name t => simp only [OpK.toks, List.mem_singleton] at hx; subst hx; rfl
theorem qFN : ∀ l : List OpK, l ≠ [] -> qAS [] (qBY l) = l.map OpK.toks
 | [], h => absurd rfl h
 | [a], _ => by
   have := qES a.toks [] [] (qFL a)
   rw [List.append_nil] at this
   rw [qBY, this]
   simp [qAS]
 | a :: b :: r, _ => by
   rw [qBY, qES _ _ _ (qFL a), qAS, if_pos qLo, qFN (b :: r) (by simp), List.nil_append]
   rfl
theorem qKl (k : OpK) : k.toks ≠ [] := by cases k <;> simp [OpK.toks]
theorem qIL (k : OpK) : k.toks.length <= 2 := by cases k <;> simp [OpK.toks]
theorem join_ne (a : OpK) (r : List OpK) : qBY (a :: r) ≠ [] := by
 cases r with
 | nil => exact qKl a
 | cons b r => simp [qBY]
theorem qHv (l : List OpK) : qBB (qBY l) = l.map OpK.toks := by
 cases l with
 | nil => simp [qBB, qBY]
 | cons a r => rw [qBB, if_neg (join_ne a r), qFN _ (by simp)]
theorem qIF : ∀ l : List OpK, (qBY l).length <= 3 * l.length
 | [] => by simp [qBY]
 | [a] => by have := qIL a; simp [qBY]; omega
 | a :: b :: r => by
   have := qIF (b :: r)
   have := qIL a
   simp only [qBY, List.length_append, List.length_cons] at *
   omega
theorem qKf (l : List OpK) (hl : ∀ k, k ∈ l -> k.ok) (hn : l.length <= 100) (gu : Nat) (v : Value) (w : World) (hL : Xp.qBQ w) (hG : Sc.Glob w) (h : qJ w v (qBY l)) (c0 : w.cell? ⟨gu, 0, none⟩ = some (.slice none 0 0)) :
  Calls Tryz.prog 94 #[.pointer (some ⟨gu, 0, none⟩), v] w fun r w' => (∃ oa oc, r = .returned (.tuple #[.slice oa (l.map OpK.opd).length oc, .int .i64 0]) /\ OpsR w' oa (l.map OpK.opd)) /\ Below w.heap.size w w' := by
 have hpc := qHv l
 refine (qBG gu v (qBY l) (l.map OpK.opd) w h (by have := qIF l; omega) (by rw [hpc]; simp) ?_).mono ?_
 ·intro i hi u X hb hu
  have hi' : i < l.length := by simpa using hi
  have hu2 : qJ X u l[i].toks := by simpa [hpc] using hu
  have := opk_any l[i] (hl _ (List.getElem_mem _)) gu u X (KL.below hL hb) (hG.below hb hG.sz) hu2 (by rw [hb.cell (World.block_lt_of_cell? w _ c0)]; exact c0)
  simpa using this
 ·rintro r w' ⟨⟨ov, rfl, hr⟩, hb⟩
  obtain ⟨oa, oc, hov⟩ := qG hr
  subst hov
  exact ⟨⟨oa, oc, rfl, OpsR.of_row hr⟩, hb⟩
structure Ins where
 name : List UInt8
 ops : List OpK
 op : Int
def Ins.toks (i : Ins) : List Tk := wd i.name :: qBY i.ops
def Ins.fill (i : Ins) := (i.ops.map OpK.opd).foldl qW ⟨i.op, 0, 0, 0⟩
structure Ins.Ok (i : Ins) : Prop where
 name : i.name ∉ dirs
 ops : ∀ k, k ∈ i.ops -> k.ok
 n : i.ops.length <= 100
 pool : qAY (i.ops.map OpK.opd) ≠ [61, 114]
 found : qBt ⟨i.name.toArray⟩ ⟨(qAY (i.ops.map OpK.opd)).toArray⟩ 12 0 = i.op
 op : i.op ≠ 0
 right : Isa.qV i.fill.op i.fill.n i.fill.m i.fill.imm = 0
 lab : labelled i.toks = false
def Ins.it (i : Ins) (ln : Int) : It := match i.ops with
 | .name nm :: _ => qDd ln i.fill.op i.fill.n i.fill.m i.fill.imm (.val nm 0)
 | _ => qAG ln i.fill.op i.fill.n i.fill.m i.fill.imm
theorem kd_one (k : OpK) : k.opd.kd.data.toList.length = 1 := by cases k <;> rfl
theorem kd_nm (k : OpK) : k.opd.kd.toList = kdN -> k.opd.nm = ⟨#[]⟩ := by
 cases k <;> simp [OpK.opd, ByteArray.toList_eq, kdN]
section
variable (w : World) (gu mb gp mi : Nat) (ln : Int) (labs : List (List UInt8 × Nat)) (its : List It)
end
end Go.Proofs.YtfmljailbebfgaaGreatDoor
namespace Go.Proofs.YtfmljailbebfgaaGreatDoor
open Go.RowKit
def OkL (l : List UInt8) (ts : List Sc.Tok) : Prop := Sc.qAT l = 0 /\ Sc.qw l = ts /\ ts ≠ [] /\ (∀ c, c ∈ l -> c ≠ 10) /\ l.length <= 80
def qBv : Nat -> List (List Sc.Tok) -> List Sc.Ln
 | _, [] => []
 | k, t :: r => ⟨k, t⟩ :: qBv (k + 1) r
theorem qFm : ∀ (l : List (List UInt8 × List Sc.Tok)) (k : Nat), (∀ a, a ∈ l -> OkL a.1 a.2) -> Sc.qAe k (l.map (·.1) ++ [[]]) = .ok (qBv k (l.map (·.2)))
 | [], k, _ => rfl
 | a :: r, k, h => by
   have ih := qFm r (k + 1) fun b hb => h b (by simp [hb])
   obtain ⟨e1, e2, e3, _⟩ := h a (by simp)
   rw [List.map_cons, List.cons_append, Sc.qAe, if_pos e1, ih, e2]
   simp [qBv, e3]
theorem qFY : ∀ l : List (List UInt8 × List Sc.Tok), (∀ a, a ∈ l -> OkL a.1 a.2) -> Sc.qk (l.flatMap fun a => a.1 ++ [10]) = l.map (·.1) ++ [[]]
 | [], _ => rfl
 | a :: r, h => by
   have ih := qFY r fun b hb => h b (by simp [hb])
   have e : (a :: r).flatMap (fun a => a.1 ++ [10]) = a.1 ++ 10 :: r.flatMap (fun a => a.1 ++ [10]) := by simp
   rw [e, Sc.qGu _ _ (h a (by simp)).2.2.2.1, ih]
   rfl
theorem len_of : ∀ l : List (List UInt8 × List Sc.Tok), (∀ a, a ∈ l -> OkL a.1 a.2) -> (l.flatMap fun a => a.1 ++ [10]).length <= 81 * l.length
 | [], _ => by simp
 | a :: r, h => by
   have ih := len_of r fun b hb => h b (by simp [hb])
   have := (h a (by simp)).2.2.2.2
   rw [List.flatMap_cons, List.length_append, List.length_append, List.length_cons]
   simp only [List.length_cons, List.length_nil]
   omega
theorem src_of (l : List (List UInt8 × List Sc.Tok)) (h : ∀ a, a ∈ l -> OkL a.1 a.2) (hl : l.length <= 14) : Sc.qAW (l.flatMap fun a => a.1 ++ [10]) = .ok (qBv 1 (l.map (·.2))) := by
 unfold Sc.qAW
 rw [if_neg (by have := len_of l h; omega), qFY l h]
 exact qFm l 1 h
theorem ent_far (args : Array Value) (w : World) : (callFunc 202 args).run Tryz.prog w = .ok (.enter 202 args) w := by kernel_rfl
theorem far1_any (gt : Nat) (tv : Value) (p q : Int) (w : World) (hL : Isa.Laid w) (hgt : w.heap[gt]? = some (.cells #[tv] 270 (0, 0))) (hT : qHN w tv q) (h0 : 0 <= p) (h1 : p <= 1000000) (h2 : -1000000000000 <= q) (h3 : q <= 1000000000000) :
  Calls Tryz.prog 202 #[.int .i64 p, .pointer (some ⟨gt, 0, none⟩)] w fun r w' => r = .returned (.bool (!(qEn p q))) /\ Below w.heap.size w w' := by
 obtain ⟨f, caps, rfl, hent, hto⟩ := hT
 have HTO := Lib.hid hto
 have HNE := Lib.hid fun W (hb : Below w.heap.size w W) => near_any p q W (hL.below hb hL.sz) h0 h1 h2 h3
 have ct : w.cell? ⟨gt, 0, none⟩ = some (.func (.func f) #[] caps) := qB hgt rfl
 have z1 := qC hgt
 clear hL hgt hto
 go_enter Tryz.func202, Tryz.ntmps202
 go_wp2_with fail
 refine (HTO.out _ (Below.refl _ _)).mono ?_
 rintro e w1 ⟨rfl, hb1⟩
 have HB1 := Lib.hid hb1
 clear hb1 HTO ct
 go_wp2_with (go_at_call 203; refine (HNE.out _ HB1.out).mono ?_; rintro e w2 ⟨rfl, hb2⟩; have HB2 := Lib.hid (HB1.out.trans (hb2.mono HB1.out.size)); clear hb2)
 go_ret
 exact ⟨rfl, HB2.out⟩
def qEP (u : Un) (ps : List Int) (k : Nat) (x : It) : Bool := decide (x.size < 6) && farU u ps (ps.getD k 0) x.gen
def long1 (u : Un) (ps : List Int) (k : Nat) (x : It) : It := if qEP u ps k x = true then { x with size := 6 } else x
theorem qB1 (u : Un) (ps : List Int) (k : Nat) (x : It) (r : List It) : qAr u ps k (x :: r) = (long1 u ps k x :: (qAr u ps (k + 1) r).1, qEP u ps k x || (qAr u ps (k + 1) r).2) := by
 rw [qAr]
 unfold long1 qEP
 generalize farU u ps (ps.getD k 0) x.gen = b
 by_cases h : x.size < 6
 ·cases b <;> simp [h]
 ·cases b <;> simp [h]
theorem qDV (u : Un) (ps : List Int) (x : It) : ∀ (l : List It) (k : Nat), qAr u ps k (l ++ [x]) = ((qAr u ps k l).1 ++ [long1 u ps (k + l.length) x], (qAr u ps k l).2 || qEP u ps (k + l.length) x)
 | [], k => by
   rw [List.nil_append, qB1]
   simp [qAr]
 | y :: l, k => by
   rw [List.cons_append, qB1, qDV u ps x l (k + 1), qB1]
   simp only [List.length_cons, List.cons_append, Bool.or_assoc]
   rw [show k + 1 + l.length = k + (l.length + 1) by omega]
theorem qBZ (u : Un) (ps : List Int) : ∀ (l : List It) (k : Nat), (qAr u ps k l).1.length = l.length
 | [], k => rfl
 | x :: l, k => by rw [qB1, List.length_cons, List.length_cons, qBZ u ps l]
def qDZ (u : Un) (ps : List Int) (its : List It) (k : Nat) : List It := (qAr u ps 0 (its.take k)).1 ++ its.drop k
theorem qG7 (u : Un) (ps : List Int) (its : List It) (k : Nat) : (qDZ u ps its k).length = its.length := by
 unfold qDZ
 rw [List.length_append, qBZ, <- List.length_append, List.take_append_drop]
theorem qD0 (u : Un) (ps : List Int) (its : List It) (k : Nat) (h : k < its.length) : (qDZ u ps its k)[k]'(by rw [qG7]; exact h) = its[k] := by
 unfold qDZ
 rw [List.getElem_append_right (by rw [qBZ]; simp; omega)]
 simp [qBZ, Nat.min_eq_left (Nat.le_of_lt h)]
theorem qI5 (u : Un) (ps : List Int) (its : List It) (k : Nat) (h : k < its.length) : qDZ u ps its (k + 1) = (qDZ u ps its k).set k (long1 u ps k its[k]) := by
 have hl : (qAr u ps 0 (its.take k)).1.length = k := by rw [qBZ]; simp; omega
 unfold qDZ
 rw [List.take_succ_eq_append_getElem h, qDV]
 simp only [Nat.zero_add, List.length_take, Nat.min_eq_left (Nat.le_of_lt h)]
 rw [List.set_append_right _ _ (by omega), hl, Nat.sub_self, List.append_assoc]
 congr 1
 rw [List.drop_eq_getElem_cons h]
 rfl
theorem qKE (u : Un) (ps : List Int) (its : List It) (k : Nat) (h : k < its.length) : (qAr u ps 0 (its.take (k + 1))).2 = ((qAr u ps 0 (its.take k)).2 || qEP u ps k its[k]) := by
 rw [List.take_succ_eq_append_getElem h, qDV]
 simp [Nat.min_eq_left (Nat.le_of_lt h)]
theorem row_put {w : World} {base n size g cap j : Nat} {e : TypeId} {xs : List Value} (h : w.ownsRow base e size (.slice (some ⟨g, 0, none⟩) n cap) n xs) (x : Value) : (w.setCell ⟨g, j, none⟩ x).ownsRow base e size (.slice (some ⟨g, 0, none⟩) n cap) n (xs.set j x) := by
 refine ⟨by rw [List.length_set]; exact h.1, .inr ?_⟩
 rcases h.2 with ⟨hv, _⟩ | ⟨g', cap', cur, hv, hg, hgg, h1, h2, h3, h4⟩
 ·cases hv
 ·injection hv with e1 _ e3
  injection e1 with e1
  injection e1 with e1
  subst e1 e3
  refine ⟨g, cap, cur.setIfInBounds j x, rfl, hg, qQ hgg, h1, h2, by simpa using h3, ?_⟩
  rw [Array.toList_setIfInBounds, List.take_set, h4]
theorem qKm : ∀ (l : List (It × Value × Value)) (k : Nat) (h : k < l.length) (s : Int), itC (l.set k ({ l[k].1 with size := s }, l[k].2)) = (itC l).set (k * 6 + 1) (.int .i64 s)
 | [], k, h, s => by simp at h
 | t :: r, 0, h, s => by simp [itC]
 | t :: r, k + 1, h, s => by
   have ih := qKm r k (by simpa using h) s
   have e : ∀ (p : It × Value × Value) (r : List (It × Value × Value)), itC (p :: r) = [.int .i64 p.1.line, .int .i64 p.1.size, .int .i64 p.1.upTo, .int .i64 p.1.align, p.2.1, p.2.2] ++ itC r := fun p r => by simp [itC]
   simp only [List.set_cons_succ, List.getElem_cons_succ]
   rw [e, e, ih, List.set_append_right _ _ (by simp; omega)]
   congr 2
   simp
   omega
end Go.Proofs.YtfmljailbebfgaaGreatDoor
