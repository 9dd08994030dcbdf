import Derived.Test.YtfmljailbebfgaaGreatDoorPut47
set_option maxHeartbeats 4000000
namespace Go.Proofs.YtfmljailbebfgaaGreatDoor
open Go.RowKit Go.Maps Go.MapKept
inductive OpK where
 | reg (t : List UInt8)
 | num (n : Int)
 | ind (t : List UInt8)
 | pool (nm : List UInt8)
 | name (nm : List UInt8)
def wd (t : List UInt8) : Tk := ⟨1, 0, ⟨t.toArray⟩⟩
def sg (c : UInt8) : Tk := ⟨3, 0, ⟨#[c]⟩⟩
def OpK.toks : OpK -> List Tk
 | .reg t => [wd t]
 | .num n => [sg 35, tkNum n]
 | .ind t => [sg 64, wd t]
 | .pool nm => [sg 61, wd nm]
 | .name nm => [wd nm]
def OpK.opd : OpK -> Opd
 | .reg t => ⟨⟨#[114]⟩, regU 1 t, ⟨#[]⟩, 0⟩
 | .num n => ⟨⟨#[35]⟩, 0, ⟨#[]⟩, wrap32 n⟩
 | .ind t => ⟨⟨#[64]⟩, regU 1 t, ⟨#[]⟩, 0⟩
 | .pool nm => ⟨⟨#[61]⟩, 0, ⟨nm.toArray⟩, 0⟩
 | .name nm => ⟨⟨#[112]⟩, 0, ⟨nm.toArray⟩, 0⟩
def OpK.ok : OpK -> Prop
 | .reg t => 0 <= regU 1 t
 | .num _ => True
 | .ind t => 0 <= regU 1 t
 | .pool nm => Xp.nameR nm = true
 | .name nm => Xp.nameR nm = true /\ regU 1 nm < 0
theorem opk_any (k : OpK) (hk : k.ok) (gu : Nat) (v : Value) (w : World) (hL : Xp.KLaid w) (hG : Sc.Glob w) (h : PReads w v k.toks) (c0 : w.cell? ⟨gu, 0, none⟩ = some (.slice none 0 0)) :
  Calls Tryz.prog 133 #[.pointer (some ⟨gu, 0, none⟩), v] w fun r w' => r = .returned (.tuple #[k.opd.V, .int .i64 0]) /\ Below w.heap.size w w' := by
 cases k with
 | reg t => have := qEn gu v (wd t) w hG h rfl (by simpa [wd, OpK.ok] using hk); simpa [OpK.opd, Opd.V, wd] using this
 | num n => exact qEo gu v 0 (tkNum n) ⟨#[]⟩ (wrap32 n) (.inl ⟨rfl, rfl, rfl⟩) w hL h c0
 | ind t => have := qF7 gu v 0 (wd t) w hG h rfl (by simpa [wd, OpK.ok] using hk); simpa [OpK.opd, Opd.V, wd] using this
 | pool nm => exact qDm gu v 0 (wd nm) ⟨nm.toArray⟩ 0 (.inr ⟨rfl, rfl, rfl, by simpa [wd, OpK.ok] using hk⟩) w hL h c0
 | name nm => exact qEJ gu v (wd nm) ⟨nm.toArray⟩ 0 (.inr ⟨rfl, rfl, rfl, by simpa [wd] using hk.1⟩) w hL hG h c0 (by simpa [wd] using hk.2)
def joinK : List OpK -> List Tk
 | [] => []
 | [a] => a.toks
 | a :: b :: r => a.toks ++ (tkComma :: joinK (b :: r))
theorem qB5 : ∀ (a cur r : List Tk), (∀ x, x ∈ a -> isComma x = false) -> splitT cur (a ++ r) = splitT (cur ++ a) r
 | [], cur, r, _ => by simp
 | x :: a, cur, r, h => by
   rw [List.cons_append, splitT, if_neg (by rw [h x (by simp)]; decide), qB5 a _ r fun y hy => h y (by simp [hy]), List.append_assoc]
   rfl
theorem qDK (c : UInt8) (h : c ≠ 44) : isComma (sg c) = false := by
 simp [isComma, sg, ByteArray.toList_eq, h]
theorem qCQ (k : OpK) : ∀ x, x ∈ k.toks -> isComma x = false := by
 intro x hx
 cases k with
 | reg t => simp only [OpK.toks, List.mem_singleton] at hx; subst hx; rfl
 | num n =>
   simp only [OpK.toks, List.mem_cons, List.not_mem_nil, or_false] at hx
   rcases hx with rfl | rfl
   ·exact qDK 35 (by decide)
   ·rfl
 | ind t =>
   simp only [OpK.toks, List.mem_cons, List.not_mem_nil, or_false] at hx
   rcases hx with rfl | rfl
   ·exact qDK 64 (by decide)
   ·rfl
 | pool t =>
   simp only [OpK.toks, List.mem_cons, List.not_mem_nil, or_false] at hx
   rcases hx with rfl | rfl
   ·exact qDK 61 (by decide)
   ·rfl
 | name t => simp only [OpK.toks, List.mem_singleton] at hx; subst hx; rfl
theorem qCp : ∀ l : List OpK, l ≠ [] -> splitT [] (joinK l) = l.map OpK.toks
 | [], h => absurd rfl h
 | [a], _ => by
   have := qB5 a.toks [] [] (qCQ a)
   rw [List.append_nil] at this
   rw [joinK, this]
   simp [splitT]
 | a :: b :: r, _ => by
   rw [joinK, qB5 _ _ _ (qCQ a), splitT, if_pos qIE, qCp (b :: r) (by simp), List.nil_append]
   rfl
theorem qI5 (k : OpK) : k.toks ≠ [] := by cases k <;> simp [OpK.toks]
theorem qFD (k : OpK) : k.toks.length <= 2 := by cases k <;> simp [OpK.toks]
theorem join_ne (a : OpK) (r : List OpK) : joinK (a :: r) ≠ [] := by
 cases r with
 | nil => exact qI5 a
 | cons b r => simp [joinK]
theorem qEd (l : List OpK) : piecesT (joinK l) = l.map OpK.toks := by
 cases l with
 | nil => simp [piecesT, joinK]
 | cons a r => rw [piecesT, if_neg (join_ne a r), qCp _ (by simp)]
theorem qFJ : ∀ l : List OpK, (joinK l).length <= 3 * l.length
 | [] => by simp [joinK]
 | [a] => by have := qFD a; simp [joinK]; omega
 | a :: b :: r => by
   have := qFJ (b :: r)
   have := qFD a
   simp only [joinK, List.length_append, List.length_cons] at *
   omega
theorem ops_any (l : List OpK) (hl : ∀ k, k ∈ l -> k.ok) (hn : l.length <= 100) (gu : Nat) (v : Value) (w : World) (hL : Xp.KLaid w) (hG : Sc.Glob w) (h : PReads w v (joinK l)) (c0 : w.cell? ⟨gu, 0, none⟩ = some (.slice none 0 0)) :
  Calls Tryz.prog 94 #[.pointer (some ⟨gu, 0, none⟩), v] w fun r w' => (∃ oa oc, r = .returned (.tuple #[.slice oa (l.map OpK.opd).length oc, .int .i64 0]) /\ OpsR w' oa (l.map OpK.opd)) /\ Below w.heap.size w w' := by
 have hpc := qEd l
 refine (qAh gu v (joinK l) (l.map OpK.opd) w h (by have := qFJ l; omega) (by rw [hpc]; simp) ?_).mono ?_
 ·intro i hi u X hb hu
  have hi' : i < l.length := by simpa using hi
  have hu2 : PReads X u l[i].toks := by simpa [hpc] using hu
  have := opk_any l[i] (hl _ (List.getElem_mem _)) gu u X (KL.below hL hb) (hG.below hb hG.sz) hu2 (by rw [hb.cell (World.block_lt_of_cell? w _ c0)]; exact c0)
  simpa using this
 ·rintro r w' ⟨⟨ov, rfl, hr⟩, hb⟩
  obtain ⟨oa, oc, hov⟩ := qE hr
  subst hov
  exact ⟨⟨oa, oc, rfl, OpsR.of_row hr⟩, hb⟩
structure Ins where
 name : List UInt8
 ops : List OpK
 op : Int
def Ins.toks (i : Ins) : List Tk := wd i.name :: joinK i.ops
def Ins.fill (i : Ins) := (i.ops.map OpK.opd).foldl fillU ⟨i.op, 0, 0, 0⟩
structure Ins.Ok (i : Ins) : Prop where
 name : i.name ∉ dirs
 ops : ∀ k, k ∈ i.ops -> k.ok
 n : i.ops.length <= 100
 pool : formU (i.ops.map OpK.opd) ≠ [61, 114]
 found : findU ⟨i.name.toArray⟩ ⟨(formU (i.ops.map OpK.opd)).toArray⟩ 12 0 = i.op
 op : i.op ≠ 0
 right : Isa.wrongI i.fill.op i.fill.n i.fill.m i.fill.imm = 0
 lab : labelled i.toks = false
def Ins.it (i : Ins) (ln : Int) : It := match i.ops with
 | .name nm :: _ => leadI ln i.fill.op i.fill.n i.fill.m i.fill.imm (.val nm 0)
 | _ => plainI ln i.fill.op i.fill.n i.fill.m i.fill.imm
theorem kd_one (k : OpK) : k.opd.kd.data.toList.length = 1 := by cases k <;> rfl
theorem kd_nm (k : OpK) : k.opd.kd.toList = kdN -> k.opd.nm = ⟨#[]⟩ := by
 cases k <;> simp [OpK.opd, ByteArray.toList_eq, kdN]
section
variable (w : World) (gu mb gp mi : Nat) (ln : Int) (labs : List (List UInt8 × Nat)) (its : List It)
theorem ins_stat (i : Ins) (hi : i.Ok) (hA : AllLaid w) (hge : w.heap.size + 2 <= gu) (hits : its.length <= 100000) (X : World) (oa : Option Addr) (oc : Nat) (hX : AlR w X gu mb gp mi ln labs its false) (ho : OpsR X oa (i.ops.map OpK.opd)) :
  Calls Tryz.prog 95 #[.pointer (some ⟨gu, 0, none⟩), .string ⟨i.name.toArray⟩, .slice oa (i.ops.map OpK.opd).length oc] X fun r w' => r = .returned (.int .i64 0) /\ AlR w w' gu mb gp mi ln labs (its ++ [i.it ln]) false := by
 obtain ⟨nv, hu, _⟩ := hX.ur
 have hn : (ByteArray.mk i.name.toArray).toList ∉ dirs := by rw [ByteArray.toList_eq]; simpa using hi.name
 have hkd : ∀ o, o ∈ i.ops.map OpK.opd -> o.kd.data.toList.length = 1 := by
  intro o h
  obtain ⟨k, _, rfl⟩ := List.mem_map.1 h
  exact kd_one k
 have hnm : ∀ o, o ∈ i.ops.map OpK.opd -> o.kd.toList = kdN -> o.nm = ⟨#[]⟩ := by
  intro o h
  obtain ⟨k, _, rfl⟩ := List.mem_map.1 h
  exact kd_nm k
 have hlen : (i.ops.map OpK.opd).length <= 1000 := by have := hi.n; simp; omega
 refine qDo gu _ oa _ oc X _ hn ?_
 have hplain : (formU (i.ops.map OpK.opd)).head? ≠ some 112 -> i.it ln = plainI ln i.fill.op i.fill.n i.fill.m i.fill.imm -> Calls Tryz.prog 136 #[.pointer (some ⟨gu, 0, none⟩), .string ⟨i.name.toArray⟩, .slice oa (i.ops.map OpK.opd).length oc] X fun r w' => r = .returned (.int .i64 0) /\ AlR w w' gu mb gp mi ln labs (its ++ [i.it ln]) false := by
  intro h1 h2
  rw [h2]
  refine (qEN gu (gu + 1) _ nv _ _ _ _ ln its ⟨i.name.toArray⟩ (i.ops.map OpK.opd) oa oc i.op X hu (hA.isa.below hX.bx.bel hA.isa.sz) (hA.frm.below hX.bx.bel hA.frm.sz) ho hlen hkd hnm hi.pool h1 hi.found hi.op hi.right hits).mono ?_
  rintro r w' ⟨rfl, hu', hf, hk⟩
  refine ⟨rfl, hX.keep hk hf hge (fun nv' hn => ?_)⟩
  obtain rfl := hn.same hu
  exact hu'
 cases hops : i.ops with
 | nil => rw [hops] at hplain; exact hplain (by decide) (by simp [Ins.it, hops])
 | cons a r =>
   cases a with
   | name nm =>
     have h2 : i.it ln = leadI ln i.fill.op i.fill.n i.fill.m i.fill.imm (.val nm 0) := by simp [Ins.it, hops]
     rw [h2, <- hops]
     refine (qGI gu (gu + 1) _ nv _ _ _ _ ln its ⟨i.name.toArray⟩ (i.ops.map OpK.opd) ⟨⟨#[112]⟩, 0, ⟨nm.toArray⟩, 0⟩ nm (by rw [hops]; rfl) rfl oa oc i.op X hu (hA.isa.below hX.bx.bel hA.isa.sz) (hA.frm.below hX.bx.bel hA.frm.sz) ho hlen hkd hnm hi.pool (by rw [hops]; simp [formU, OpK.opd]) hi.found hi.op hi.right hits).mono ?_
     rintro r w' ⟨rfl, hu', hf, hk⟩
     refine ⟨rfl, hX.keep hk hf hge (fun nv' hn => ?_)⟩
     obtain rfl := hn.same hu
     exact hu'
   | reg t => rw [hops] at hplain; exact hplain (by simp [formU, OpK.opd]) (by simp [Ins.it, hops])
   | num t => rw [hops] at hplain; exact hplain (by simp [formU, OpK.opd]) (by simp [Ins.it, hops])
   | ind t => rw [hops] at hplain; exact hplain (by simp [formU, OpK.opd]) (by simp [Ins.it, hops])
   | pool t => rw [hops] at hplain; exact hplain (by simp [formU, OpK.opd]) (by simp [Ins.it, hops])
end
end Go.Proofs.YtfmljailbebfgaaGreatDoor
namespace Go.Proofs.YtfmljailbebfgaaGreatDoor
open Go.RowKit
def OkL (l : List UInt8) (ts : List Sc.Tok) : Prop := Sc.lineErr l = 0 /\ Sc.lineList l = ts /\ ts ≠ [] /\ (∀ c, c ∈ l -> c ≠ 10) /\ l.length <= 80
def numLn : Nat -> List (List Sc.Tok) -> List Sc.Ln
 | _, [] => []
 | k, t :: r => ⟨k, t⟩ :: numLn (k + 1) r
theorem qFA : ∀ (l : List (List UInt8 × List Sc.Tok)) (k : Nat), (∀ a, a ∈ l -> OkL a.1 a.2) -> Sc.linesR k (l.map (·.1) ++ [[]]) = .ok (numLn k (l.map (·.2)))
 | [], k, _ => rfl
 | a :: r, k, h => by
   have ih := qFA r (k + 1) fun b hb => h b (by simp [hb])
   obtain ⟨e1, e2, e3, _⟩ := h a (by simp)
   rw [List.map_cons, List.cons_append, Sc.linesR, if_pos e1, ih, e2]
   simp [numLn, e3]
theorem qFl : ∀ l : List (List UInt8 × List Sc.Tok), (∀ a, a ∈ l -> OkL a.1 a.2) -> Sc.splitNL (l.flatMap fun a => a.1 ++ [10]) = l.map (·.1) ++ [[]]
 | [], _ => rfl
 | a :: r, h => by
   have ih := qFl r fun b hb => h b (by simp [hb])
   have e : (a :: r).flatMap (fun a => a.1 ++ [10]) = a.1 ++ 10 :: r.flatMap (fun a => a.1 ++ [10]) := by simp
   rw [e, Sc.qDg _ _ (h a (by simp)).2.2.2.1, ih]
   rfl
theorem qHz : ∀ l : List (List UInt8 × List Sc.Tok), (∀ a, a ∈ l -> OkL a.1 a.2) -> (l.flatMap fun a => a.1 ++ [10]).length <= 81 * l.length
 | [], _ => by simp
 | a :: r, h => by
   have ih := qHz r fun b hb => h b (by simp [hb])
   have := (h a (by simp)).2.2.2.2
   rw [List.flatMap_cons, List.length_append, List.length_append, List.length_cons]
   simp only [List.length_cons, List.length_nil]
   omega
theorem src_of (l : List (List UInt8 × List Sc.Tok)) (h : ∀ a, a ∈ l -> OkL a.1 a.2) (hl : l.length <= 14) : Sc.srcLines (l.flatMap fun a => a.1 ++ [10]) = .ok (numLn 1 (l.map (·.2))) := by
 unfold Sc.srcLines
 rw [if_neg (by have := qHz l h; omega), qFl l h]
 exact qFA l 1 h
def reptL (n : Nat) : List UInt8 := [46, 114, 101, 112, 116, 32] ++ Lib.itoa n
def reptT (n : Nat) : List Sc.Tok := [⟨1, 0, [46, 114, 101, 112, 116]⟩, ⟨2, n, []⟩]
def endrL : List UInt8 := [46, 101, 110, 100, 114]
def endrT : List Sc.Tok := [⟨1, 0, [46, 101, 110, 100, 114]⟩]
def nopL : List UInt8 := [110, 111, 112]
def nopT : List Sc.Tok := [⟨1, 0, [110, 111, 112]⟩]
theorem ok_endr : OkL endrL endrT := ⟨by kernel_rfl, by kernel_rfl, by simp [endrT], by decide, by decide⟩
theorem ok_nop : OkL nopL nopT := ⟨by kernel_rfl, by kernel_rfl, by simp [nopT], by decide, by decide⟩
theorem ok_rept (n : Nat) (h : n < 1000) : OkL (reptL n) (reptT n) := by
 have hp : reptL n = Sc.printL (reptT n) := by
  rw [reptT, Sc.qA3, Sc.qAs]
  simp [reptL, Sc.prT, Sc.tailL, Lib.joinTail]
 have hg : ∀ t, t ∈ reptT n -> Sc.Good t := by
  intro t ht
  simp only [reptT, List.mem_cons, List.not_mem_nil, or_false] at ht
  rcases ht with rfl | rfl
  ·exact .inl ⟨46, [114, 101, 112, 116], rfl, by decide, by decide⟩
  ·exact .inr (.inl ⟨n, rfl, by omega⟩)
 have hlen : (reptL n).length <= 27 := by
  have := Lib.itoa_length_le (n : Int) (by omega) (by omega)
  rw [reptL, List.length_append]
  simp
  omega
 obtain ⟨e1, e2⟩ := Sc.qDW (l := reptL n) (done := reptT n) (by omega) (by rw [hp, Sc.qGB _ hg]; exact Sc.qGe _ hg)
 refine ⟨e1, e2, by simp [reptT], ?_, by omega⟩
 intro c hc
 rw [reptL, List.mem_append] at hc
 rcases hc with hc | hc
 ·intro e; subst e; revert hc; decide
 ·rw [Sc.itoa_nat (n : Int) (by omega)] at hc
  have := List.all_eq_true.1 (Sc.qAT _) c hc
  intro e; subst e; revert this; decide
theorem qFi (v : Value) (src : List UInt8) (lns : List Sc.Ln) (pl : List Pl) (o : Ob) (w : World) (hv : Sc.BReads w v src) (hsrc : Sc.srcLines src = .ok lns) (hln : lns.length <= 1000) (hpl : PlOk lns 0 pl) (ho : (idxOf 0 pl).length <= 200) (hk : lkOf pl <= 4000) (hts : ∀ x, x ∈ lns -> x.toks.length <= 100000) (hX : Xp.KLaid w) (hG : Sc.Glob w)
  (hbd : ∀ v W, Below w.heap.size w W -> LRd W v ((plLines lns pl).map lnOf) -> Calls Tryz.prog 46 #[v, .slice none 0 0] W fun r w' => (∃ ca cl cc sa sl sc qa ql qc, r = .returned (.tuple #[.agg #[.slice ca cl cc, .slice sa sl sc, .slice qa ql qc], .agg #[.int .i64 0, .int .i64 0]]) /\ ObjAt w' (.slice ca cl cc) (.slice sa sl sc) (.slice qa ql qc) o) /\ Below W.heap.size W w') :
  Calls Tryz.prog 25 #[v] w fun r w' => (∃ ca cl cc sa sl sc qa ql qc, r = .returned (.tuple #[.agg #[.slice ca cl cc, .slice sa sl sc, .slice qa ql qc], .agg #[.int .i64 0, .int .i64 0]]) /\ ObjAt w' (.slice ca cl cc) (.slice sa sl sc) (.slice qa ql qc) o) /\ Below w.heap.size w w' := by
 have hs := Sc.src_ok hsrc
 have HLN := Lib.hid fun W (hb : Below w.heap.size w W) => Sc.qH9 v (src) W (hG.below hb hG.sz) (by
  obtain ⟨ad, cap, rfl, hm, hc⟩ := hv
  refine ⟨ad, cap, rfl, hm, fun h0 => ?_⟩
  obtain ⟨b, o, rfl, hlt, hcell⟩ := hc h0
  exact ⟨b, o, rfl, Nat.lt_of_lt_of_le hlt hb.size, fun i hi => by rw [hb.cell (by exact hlt)]; exact hcell i hi⟩)
 obtain ⟨ad, cap, rfl, _⟩ := hv
 obtain ⟨hs1, hs2, hs3⟩ := hs
 have HSH : Hid (∀ v W, Below w.heap.size w W -> LIn W v lns -> Calls Tryz.prog 45 #[v] W fun r w' => (∃ lv, r = .returned (.tuple #[lv, .slice none 0 0, .agg #[.int .i64 0, .int .i64 0]]) /\ LRd w' lv ((plLines lns pl).map lnOf)) /\ Below W.heap.size W w') := fun v W hb h => qHJ v lns pl W h (KL.below hX hb) hpl hln ho hk hts
 have HBD := Lib.hid hbd
 clear hG hbd hpl hX
 go_enter Tryz.func25, Tryz.ntmps25
 go_wp2_with fail
 refine (HLN.out _ (by go_grown)).mono ?_
 rintro e w1 ⟨⟨lv, ps, rfl, hps, hlo⟩, hb1⟩
 rw [hs1, hs2]
 rw [hs3] at hps
 have hlin := lin_of hlo
 rw [hps] at hlin
 obtain ⟨la, lc, hlv⟩ := qE hlo.row
 subst hlv
 have x0 : w1.heap[w.heap.size]? = some (.cells #[.slice none 0 0, .slice none 0 0, .slice none 0 0] 51 (0, 0)) := by
  rw [hb1.block _ (by go_size), old2 _ _ (by go_size)]
  exact qG _ _ rfl
 have x1 : w1.heap[w.heap.size + 1]? = some (.cells #[.int .i64 0, .int .i64 0] 38 (0, 0)) := by
  rw [hb1.block _ (by go_size)]
  exact qG _ _ (by go_size)
 have HB1 : Hid (Below w.heap.size w w1) := Below.trans (by go_grown) (hb1.mono (by go_size))
 have HSC := Lib.hid fun W (hb : Below w1.heap.size w1 W) => HSH.out (.slice la ps.length lc) W (HB1.out.trans (hb.mono HB1.out.size)) (by
  obtain ⟨ad', cap', e, hh⟩ := hlin
  refine ⟨ad', cap', e, fun h0 => ?_⟩
  obtain ⟨b, o, rfl, hlt, hc⟩ := hh h0
  refine ⟨b, o, rfl, Nat.lt_of_lt_of_le hlt hb.size, fun i hi => ?_⟩
  obtain ⟨tv, a1, a2, a3⟩ := hc i hi
  exact ⟨tv, by rw [hb.cell (by exact hlt)]; exact a1, by rw [hb.cell (by exact hlt)]; exact a2, a3.below hb (Nat.le_refl _)⟩)
 have X0 := Lib.hid x0
 have X1 := Lib.hid x1
 clear hb1 hlo hlin hps x0 x1 HLN HSH hs1 hs2 hs3
 go_wp2_with fail
 refine (HSC.out _ (oalloc _ _)).mono ?_
 rintro e w2 ⟨⟨sv, rfl, hlr⟩, hb2⟩
 obtain ⟨sa, sc, hsv, _⟩ := id hlr
 subst hsv
 obtain ⟨hB2, hz2, yr⟩ := qL hb2
 have HB2 := Lib.hid (HB1.out.trans (hB2.mono HB1.out.size))
 have X02 := Lib.hid ((hB2.block _ (qC X0.out)).trans X0.out)
 have X12 := Lib.hid ((hB2.block _ (qC X1.out)).trans X1.out)
 have HLR := Lib.hid hlr
 have YR := Lib.hid yr
 obtain ⟨⟨u0, u1⟩, f0, f1⟩ := qV yr
 clear hb2 hB2 yr hlr HSC X0 X1 HB1
 go_wp2_with fail
 have hsame : Below w2.heap.size w2 ((w2.setCell ⟨w1.heap.size, 0, none⟩ (.int .i64 0)).setCell ⟨w1.heap.size, 1, none⟩ (.int .i64 0)) := (qd YR.out rfl).trans (qd (qAa YR.out rfl) rfl)
 have hlr3 := HLR.out.below hsame (Nat.le_refl _)
 simp only [List.length_map] at hlr3
 refine (HBD.out _ _ (HB2.out.trans (hsame.mono HB2.out.size)) hlr3).mono ?_
 rintro e w6 ⟨⟨ca, cl, cc, sa', sl, sc', qa, ql, qc, rfl, hob⟩, hb6⟩
 have hb7 : Below w2.heap.size w2 w6 := hsame.trans (hb6.mono hsame.size)
 have z0 := (hb7.block _ (qC X02.out)).trans X02.out
 have z1 := (hb7.block _ (qC X12.out)).trans X12.out
 have g0 : w6.cell? ⟨w.heap.size, 0, none⟩ = some (.slice none 0 0) := qB z0 rfl
 have g1 : w6.cell? ⟨w.heap.size, 1, none⟩ = some (.slice none 0 0) := qB z0 rfl
 have g2 : w6.cell? ⟨w.heap.size, 2, none⟩ = some (.slice none 0 0) := qB z0 rfl
 have q0 : w6.frozen? ⟨w.heap.size, 0, none⟩ = false := qD z0
 have q1 : w6.frozen? ⟨w.heap.size, 1, none⟩ = false := qD z0
 have q2 : w6.frozen? ⟨w.heap.size, 2, none⟩ = false := qD z0
 obtain ⟨⟨v0, v1⟩, t0, t1⟩ := qV z1
 have HOB := Lib.hid hob
 have HB6 := Lib.hid (HB2.out.trans (hb7.mono HB2.out.size))
 have Z0 := Lib.hid z0
 have Z1 := Lib.hid z1
 clear hob hb6 hb7 z0 z1 hsame hlr3 HBD HLR u0 u1 f0 f1
 go_wp2_with fail
 have n3 : ∀ (x y z : Option Addr) (a b c d e f : Nat) (j : Nat) (n : Int), (#[Value.slice x a b, .slice y c d, .slice z e f] : Array Value)[j]? ≠ some (.int .u8 n) := by
  intro x y z a b c d e f j n h
  rcases j with _ | _ | _ | j <;> simp at h
 have m3 : ∀ (x y z : Option Addr) (a b c d e f : Nat) (j : Nat) (n : ByteArray), (#[Value.slice x a b, .slice y c d, .slice z e f] : Array Value)[j]? ≠ some (.string n) := by
  intro x y z a b c d e f j n h
  rcases j with _ | _ | _ | j <;> simp at h
 have n2 : ∀ (a b : Int) (j : Nat) (n : Int), (#[Value.int .i64 a, .int .i64 b] : Array Value)[j]? ≠ some (.int .u8 n) := by
  intro a b j n h
  rcases j with _ | _ | j <;> simp at h
 have m2 : ∀ (a b : Int) (j : Nat) (n : ByteArray), (#[Value.int .i64 a, .int .i64 b] : Array Value)[j]? ≠ some (.string n) := by
  intro a b j n h
  rcases j with _ | _ | j <;> simp at h
 have o1 := HOB.out.set (i := 0) (v := .slice ca cl cc) Z0.out (m3 _ _ _ _ _ _ _ _ _) (n3 _ _ _ _ _ _ _ _ _)
 have z1 := qI (i := 0) (v := .slice ca cl cc) Z0.out
 have o2 := o1.set (i := 1) (v := .slice sa' sl sc') z1 (m3 _ _ _ _ _ _ _ _ _) (n3 _ _ _ _ _ _ _ _ _)
 have z2 := qI (i := 1) (v := .slice sa' sl sc') z1
 have o3 := o2.set (i := 2) (v := .slice qa ql qc) z2 (m3 _ _ _ _ _ _ _ _ _) (n3 _ _ _ _ _ _ _ _ _)
 have Z1b : (((w6.setCell ⟨w.heap.size, 0, none⟩ (.slice ca cl cc)).setCell ⟨w.heap.size, 1, none⟩ (.slice sa' sl sc')).setCell ⟨w.heap.size, 2, none⟩ (.slice qa ql qc)).heap[w.heap.size + 1]? = some (.cells #[.int .i64 0, .int .i64 0] 38 (0, 0)) := by
  rw [Below.heap_setCell _ _ _ _ (by show w.heap.size + 1 ≠ w.heap.size; omega), Below.heap_setCell _ _ _ _ (by show w.heap.size + 1 ≠ w.heap.size; omega), Below.heap_setCell _ _ _ _ (by show w.heap.size + 1 ≠ w.heap.size; omega)]
  exact Z1.out
 have o4 := o3.set (i := 0) (v := .int .i64 0) Z1b (m2 _ _) (n2 _ _)
 have o5 := o4.set (i := 1) (v := .int .i64 0) (qI (i := 0) (v := .int .i64 0) Z1b) (m2 _ _) (n2 _ _)
 exact bodyPost_ret (v := .tuple #[.agg #[.slice ca cl cc, .slice sa' sl sc', .slice qa ql qc], .agg #[.int .i64 0, .int .i64 0]]) (by simp [results, Tryz.results25, go_sem, g0, g1, g2, v0, v1]) rfl ⟨⟨ca, cl, cc, sa', sl, sc', qa, ql, qc, rfl, o5⟩, ((((HB6.out.setCell (Nat.le_refl _) _).setCell (Nat.le_refl _) _).setCell (Nat.le_refl _) _).setCell (Nat.le_succ _) _).setCell (Nat.le_succ _) _⟩
theorem ent_far (args : Array Value) (w : World) : (callFunc 202 args).run Tryz.prog w = .ok (.enter 202 args) w := by kernel_rfl
theorem far1_any (gt : Nat) (tv : Value) (p q : Int) (w : World) (hL : Isa.Laid w) (hgt : w.heap[gt]? = some (.cells #[tv] 270 (0, 0))) (hT : Tells w tv q) (h0 : 0 <= p) (h1 : p <= 1000000) (h2 : -1000000000000 <= q) (h3 : q <= 1000000000000) :
  Calls Tryz.prog 202 #[.int .i64 p, .pointer (some ⟨gt, 0, none⟩)] w fun r w' => r = .returned (.bool (!(nearU p q))) /\ Below w.heap.size w w' := by
 obtain ⟨f, caps, rfl, hent, hto⟩ := hT
 have HTO := Lib.hid hto
 have HNE := Lib.hid fun W (hb : Below w.heap.size w W) => near_any p q W (hL.below hb hL.sz) h0 h1 h2 h3
 have ct : w.cell? ⟨gt, 0, none⟩ = some (.func (.func f) #[] caps) := qB hgt rfl
 have z1 := qC hgt
 clear hL hgt hto
 go_enter Tryz.func202, Tryz.ntmps202
 go_wp2_with fail
 refine (HTO.out _ (Below.refl _ _)).mono ?_
 rintro e w1 ⟨rfl, hb1⟩
 have HB1 := Lib.hid hb1
 clear hb1 HTO ct
 go_wp2_with (go_at_call 203; refine (HNE.out _ HB1.out).mono ?_; rintro e w2 ⟨rfl, hb2⟩; have HB2 := Lib.hid (HB1.out.trans (hb2.mono HB1.out.size)); clear hb2)
 go_ret
 exact ⟨rfl, HB2.out⟩
def mustU (u : Un) (ps : List Int) (k : Nat) (x : It) : Bool := decide (x.size < 6) && farU u ps (ps.getD k 0) x.gen
def long1 (u : Un) (ps : List Int) (k : Nat) (x : It) : It := if mustU u ps k x = true then { x with size := 6 } else x
theorem qAE (u : Un) (ps : List Int) (k : Nat) (x : It) (r : List It) : longU u ps k (x :: r) = (long1 u ps k x :: (longU u ps (k + 1) r).1, mustU u ps k x || (longU u ps (k + 1) r).2) := by
 rw [longU]
 unfold long1 mustU
 generalize farU u ps (ps.getD k 0) x.gen = b
 by_cases h : x.size < 6
 ·cases b <;> simp [h]
 ·cases b <;> simp [h]
theorem qBZ (u : Un) (ps : List Int) (x : It) : ∀ (l : List It) (k : Nat), longU u ps k (l ++ [x]) = ((longU u ps k l).1 ++ [long1 u ps (k + l.length) x], (longU u ps k l).2 || mustU u ps (k + l.length) x)
 | [], k => by
   rw [List.nil_append, qAE]
   simp [longU]
 | y :: l, k => by
   rw [List.cons_append, qAE, qBZ u ps x l (k + 1), qAE]
   simp only [List.length_cons, List.cons_append, Bool.or_assoc]
   rw [show k + 1 + l.length = k + (l.length + 1) by omega]
theorem qs (u : Un) (ps : List Int) : ∀ (l : List It) (k : Nat), (longU u ps k l).1.length = l.length
 | [], k => rfl
 | x :: l, k => by rw [qAE, List.length_cons, List.length_cons, qs u ps l]
def itsAt (u : Un) (ps : List Int) (its : List It) (k : Nat) : List It := (longU u ps 0 (its.take k)).1 ++ its.drop k
theorem qDr (u : Un) (ps : List Int) (its : List It) (k : Nat) : (itsAt u ps its k).length = its.length := by
 unfold itsAt
 rw [List.length_append, qs, <- List.length_append, List.take_append_drop]
theorem qBo (u : Un) (ps : List Int) (its : List It) (k : Nat) (h : k < its.length) : (itsAt u ps its k)[k]'(by rw [qDr]; exact h) = its[k] := by
 unfold itsAt
 rw [List.getElem_append_right (by rw [qs]; simp; omega)]
 simp [qs, Nat.min_eq_left (Nat.le_of_lt h)]
theorem qGL (u : Un) (ps : List Int) (its : List It) (k : Nat) (h : k < its.length) : itsAt u ps its (k + 1) = (itsAt u ps its k).set k (long1 u ps k its[k]) := by
 have hl : (longU u ps 0 (its.take k)).1.length = k := by rw [qs]; simp; omega
 unfold itsAt
 rw [List.take_succ_eq_append_getElem h, qBZ]
 simp only [Nat.zero_add, List.length_take, Nat.min_eq_left (Nat.le_of_lt h)]
 rw [List.set_append_right _ _ (by omega), hl, Nat.sub_self, List.append_assoc]
 congr 1
 rw [List.drop_eq_getElem_cons h]
 rfl
theorem qI2 (u : Un) (ps : List Int) (its : List It) (k : Nat) (h : k < its.length) : (longU u ps 0 (its.take (k + 1))).2 = ((longU u ps 0 (its.take k)).2 || mustU u ps k its[k]) := by
 rw [List.take_succ_eq_append_getElem h, qBZ]
 simp [Nat.min_eq_left (Nat.le_of_lt h)]
theorem row_put {w : World} {base n size g cap j : Nat} {e : TypeId} {xs : List Value} (h : w.ownsRow base e size (.slice (some ⟨g, 0, none⟩) n cap) n xs) (x : Value) : (w.setCell ⟨g, j, none⟩ x).ownsRow base e size (.slice (some ⟨g, 0, none⟩) n cap) n (xs.set j x) := by
 refine ⟨by rw [List.length_set]; exact h.1, .inr ?_⟩
 rcases h.2 with ⟨hv, _⟩ | ⟨g', cap', cur, hv, hg, hgg, h1, h2, h3, h4⟩
 ·cases hv
 ·injection hv with e1 _ e3
  injection e1 with e1
  injection e1 with e1
  subst e1 e3
  refine ⟨g, cap, cur.setIfInBounds j x, rfl, hg, qI hgg, h1, h2, by simpa using h3, ?_⟩
  rw [Array.toList_setIfInBounds, List.take_set, h4]
theorem qG8 : ∀ (l : List (It × Value × Value)) (k : Nat) (h : k < l.length) (s : Int), itC (l.set k ({ l[k].1 with size := s }, l[k].2)) = (itC l).set (k * 6 + 1) (.int .i64 s)
 | [], k, h, s => by simp at h
 | t :: r, 0, h, s => by simp [itC]
 | t :: r, k + 1, h, s => by
   have ih := qG8 r k (by simpa using h) s
   have e : ∀ (p : It × Value × Value) (r : List (It × Value × Value)), itC (p :: r) = [.int .i64 p.1.line, .int .i64 p.1.size, .int .i64 p.1.upTo, .int .i64 p.1.align, p.2.1, p.2.2] ++ itC r := fun p r => by simp [itC]
   simp only [List.set_cons_succ, List.getElem_cons_succ]
   rw [e, e, ih, List.set_append_right _ _ (by simp; omega)]
   congr 2
   simp
   omega
end Go.Proofs.YtfmljailbebfgaaGreatDoor
