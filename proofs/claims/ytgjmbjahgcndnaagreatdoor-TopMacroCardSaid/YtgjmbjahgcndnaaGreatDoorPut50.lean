import Derived.Test.YtgjmbjahgcndnaaGreatDoorTmQ
import Derived.Test.YtgjmbjahgcndnaaGreatDoorPut48
import Derived.Test.YtgjmbjahgcndnaaGreatDoorPut47
set_option maxHeartbeats 8000000
set_option maxRecDepth 100000
namespace Go.Proofs.YtgjmbjahgcndnaaGreatDoor
open Go.RowKit Go.Maps Go.MapKept
def LI (q : Nat) : List Pc := [pc (wd [97, 100, 100]), pc (sg 35), ⟨⟨0, 0, ⟨#[]⟩⟩, some ⟨q, 0, none⟩⟩, pc qBH, pc (wd r0')]
theorem qEG (q : Nat) : qBz [pc (sg 35), ⟨⟨0, 0, ⟨#[]⟩⟩, some ⟨q, 0, none⟩⟩, pc qBH, pc (wd r0')] = [[pc (sg 35), ⟨⟨0, 0, ⟨#[]⟩⟩, some ⟨q, 0, none⟩⟩], [pc (wd r0')]] := by
 have h1 : qBe (pc (sg 35)) = false := by show qAV (sg 35) = false; exact qCX 35 (by decide)
 have h2 : qBe (⟨⟨0, 0, ⟨#[]⟩⟩, some ⟨q, 0, none⟩⟩ : Pc) = false := rfl
 have h3 : qBe (pc qBH) = true := by show qAV qBH = true; simp [qAV, qBH, ByteArray.toList_eq]
 have h4 : qBe (pc (wd r0')) = false := by show qAV (wd r0') = false; simp [qAV, wd]
 simp [qBz, qAd, h1, h2, h3, h4]
def OpK.pl : OpK -> Prop
 | .reg _ => True
 | .num _ => True
 | .neg _ => True
 | _ => False
theorem qH3 (k : OpK) (hk : k.ok) (hp : k.pl) (gu : Nat) (v : Value) (w : World) (hL : Xp.qAT w) (hG : Sc.Glob w) (h : qI w v k.toks) (c0 : w.cell? ⟨gu, 0, none⟩ = some (.slice none 0 0)) :
  Calls Tryz.prog 131 #[.pointer (some ⟨gu, 0, none⟩), v] w fun r w' => r = .returned (.tuple #[k.opd.V, .int .i64 0]) /\ Below w.heap.size w w' := by
 cases k with
 | reg t => have := qGs gu v (wd t) w hG h rfl (by simpa [wd, OpK.ok] using hk); simpa [OpK.opd, Opd.V, wd] using this
 | num n => exact qHH gu v 0 (tkNum n) ⟨#[]⟩ (wrap32 n) (.inl ⟨rfl, rfl, rfl⟩) w hL h c0
 | neg n => exact qHD gu v 0 n ⟨#[]⟩ w hL h c0
 | ind t => exact hp.elim
 | pool nm => exact hp.elim
 | name nm => exact hp.elim
theorem opsN_any (l : List OpK) (hl : ∀ k, k ∈ l -> k.ok) (hp : ∀ k, k ∈ l -> k.pl) (hn : l.length <= 100) (gu : Nat) (v : Value) (w : World) (hL : Xp.qAT w) (hG : Sc.Glob w) (h : qY w v ((qBR l).map pc)) (c0 : w.cell? ⟨gu, 0, none⟩ = some (.slice none 0 0)) :
  Calls Tryz.prog 92 #[.pointer (some ⟨gu, 0, none⟩), v] w fun r w' => (∃ oa oc, r = .returned (.tuple #[.slice oa (l.map OpK.opd).length oc, .int .i64 0]) /\ OpsR w' oa (l.map OpK.opd)) /\ Below w.heap.size w w' := by
 have hpc := qGm l
 refine (qCD gu v (qBR l) (l.map OpK.opd) w (qY.toP h) (by have := qIL l; omega) (by rw [hpc]; simp) ?_).mono ?_
 ·intro i hi u X hb hu
  have hi' : i < l.length := by simpa using hi
  have hu2 : qI X u l[i].toks := by simpa [hpc] using hu
  have := qH3 l[i] (hl _ (List.getElem_mem _)) (hp _ (List.getElem_mem _)) gu u X (KL.below hL hb) (hG.below hb hG.sz) hu2 (by rw [hb.cell (World.block_lt_of_cell? w _ c0)]; exact c0)
  simpa using this
 ·rintro r w' ⟨⟨ov, rfl, hr⟩, hb⟩
  obtain ⟨oa, oc, hov⟩ := qG hr
  subst hov
  exact ⟨⟨oa, oc, rfl, OpsR.of_row hr⟩, hb⟩
theorem qF1 (w : World) (gu mb gp mi : Nat) (ln : Int) (labs : List (List UInt8 × Nat)) (its : List It) (q : Option (List UInt8 × Int)) (old : Option (Nat × Nat)) (i : Ins) (hi : i.Ok) (hp : ∀ k, k ∈ i.ops -> k.pl) (hA : qAi w) (hge : w.heap.size + 2 <= gu) (hits : its.length <= 100000) (X : World) (oa : Option Addr) (oc : Nat) (hX : AlQ w X gu mb gp mi ln labs its q old) (ho : OpsR X oa (i.ops.map OpK.opd)) :
  Calls Tryz.prog 93 #[.pointer (some ⟨gu, 0, none⟩), .string ⟨i.name.toArray⟩, .slice oa (i.ops.map OpK.opd).length oc] X fun r w' => r = .returned (.int .i64 0) /\ AlQ w w' gu mb gp mi ln labs (its ++ [i.it ln]) q old := by
 obtain ⟨nv, hu, _⟩ := hX.ur
 have hn : (ByteArray.mk i.name.toArray).toList ∉ dirs := by rw [ByteArray.toList_eq]; simpa using hi.name
 have hkd : ∀ o, o ∈ i.ops.map OpK.opd -> o.kd.data.toList.length = 1 := by
  intro o h
  obtain ⟨k, _, rfl⟩ := List.mem_map.1 h
  exact kd_one k
 have hnm : ∀ o, o ∈ i.ops.map OpK.opd -> o.kd.toList = kdN -> o.nm = ⟨#[]⟩ := by
  intro o h
  obtain ⟨k, _, rfl⟩ := List.mem_map.1 h
  exact kd_nm k
 have hlen : (i.ops.map OpK.opd).length <= 1000 := by have := hi.n; simp; omega
 refine qGJ gu _ oa _ oc X _ hn ?_
 have hplain : (qAq (i.ops.map OpK.opd)).head? ≠ some 112 -> i.it ln = qAf ln i.fill.op i.fill.n i.fill.m i.fill.imm -> Calls Tryz.prog 134 #[.pointer (some ⟨gu, 0, none⟩), .string ⟨i.name.toArray⟩, .slice oa (i.ops.map OpK.opd).length oc] X fun r w' => r = .returned (.int .i64 0) /\ AlQ w w' gu mb gp mi ln labs (its ++ [i.it ln]) q old := by
  intro h1 h2
  rw [h2]
  refine (qGz gu (gu + 1) _ nv _ _ _ _ ln its ⟨i.name.toArray⟩ (i.ops.map OpK.opd) oa oc i.op X hu (hA.isa.below hX.bx.bel hA.isa.sz) (hA.frm.below hX.bx.bel hA.frm.sz) ho hlen hkd hnm hi.pool h1 hi.found hi.op hi.right hits).mono ?_
  rintro r w' ⟨rfl, hu', hf, hk⟩
  refine ⟨rfl, hX.keep hk hf hge (fun nv' hn => ?_)⟩
  obtain rfl := hn.same hu
  exact hu'
 cases hops : i.ops with
 | nil => rw [hops] at hplain; exact hplain (by decide) (by simp [Ins.it, hops])
 | cons a r =>
   have ha := hp a (by rw [hops]; simp)
   cases a with
   | name nm => exact ha.elim
   | reg t => rw [hops] at hplain; exact hplain (by simp [qAq, OpK.opd]) (by simp [Ins.it, hops])
   | neg t => rw [hops] at hplain; exact hplain (by simp [qAq, OpK.opd]) (by simp [Ins.it, hops])
   | num t => rw [hops] at hplain; exact hplain (by simp [qAq, OpK.opd]) (by simp [Ins.it, hops])
   | ind t => exact ha.elim
   | pool t => exact ha.elim
theorem pl_opS (a : Int) : (opS a).pl := by unfold opS; split <;> trivial
theorem qK7 (a : Int) : ∀ k, k ∈ (qAx a).ops -> k.pl := by
 intro k hk
 simp only [qAx, List.mem_cons, List.not_mem_nil, or_false] at hk
 rcases hk with rfl | rfl
 ·exact pl_opS a
 ·trivial
theorem read_in (w W : World) (gu mb gp mi q : Nat) (v : Value) (ln a : Int) (h0 : -100 <= a) (h1 : a <= 100) (labs : List (List UInt8 × Nat)) (its : List It) (qq : Option (List UInt8 × Int)) (old : Option (Nat × Nat)) (hA : qAi w) (hge : w.heap.size + 2 <= gu) (h : AlQ w W gu mb gp mi ln labs its qq old) (hits : its.length <= 100000) (hv : qY w v (LI q)) (hq : InP w q (numK a)) :
  Calls Tryz.prog 71 #[.pointer (some ⟨gu, 0, none⟩), v] W fun r w' => r = .returned (.int .i64 0) /\ AlQ w w' gu mb gp mi ln labs (its ++ [(qAx a).it ln]) qq old := by
 have hl : ((qAx a).ops.map OpK.opd).length = 2 := by simp [qAx]
 refine qLd gu v 0 ⟨([97, 100, 100] : List UInt8).toArray⟩ [pc (sg 35), ⟨⟨0, 0, ⟨#[]⟩⟩, some ⟨q, 0, none⟩⟩, pc qBH, pc (wd r0')] ((qAx a).ops.map OpK.opd) w W (fun X => AlQ w X gu mb gp mi ln labs its qq old) _ ?_ (fun A B h1 h2 => h1.go h2) (fun X hX => hX.bx.bel) ?_ ?_ hv.shape
 ·refine (labels_x gu v (wd [97, 100, 100]) (sg 35) _ W (hv.below h.bx.bel (Nat.le_refl _)) (by simp [wd, sg, ByteArray.toList_eq])).mono ?_
  rintro r w' ⟨rfl, hb⟩
  exact ⟨v, rfl, hv, h.go hb⟩
 ·intro X v2 hX hv2
  obtain ⟨nv, hu, _⟩ := hX.ur
  have hc0 := hu.cell0
  have hgu := World.block_lt_of_cell? X _ hc0
  refine (qE8 gu v2 _ ((qAx a).ops.map OpK.opd) X (hv2.below hX.bx.bel (Nat.le_refl _)) (by simp) (by rw [qEG, hl]; rfl) ?_).mono ?_
  ·intro i hi u Y hb hu2
   rw [hl] at hi
   have hLY : Xp.qAT Y := KL.below (KL.below hA.ex hX.bx.bel) hb
   have hcY : Y.cell? ⟨gu, 0, none⟩ = some (.slice none 0 0) := by rw [hb.cell (by exact hgu)]; exact hc0
   have hi2 : i = 0 \/ i = 1 := by omega
   rcases hi2 with rfl | rfl
   ·show Calls Tryz.prog _ _ _ fun r w' => r = .returned (.tuple #[(opS a).opd.V, .int .i64 0]) /\ Below Y.heap.size Y w'
    rw [qGv a h0 h1]
    simp only [qEG, List.getElem_cons_zero] at hu2
    exact qHB gu u 0 ⟨0, 0, ⟨#[]⟩⟩ q a h0 h1 Y hLY hu2 ((hq.go hX.bx.bel).go hb) hcY
   ·simp only [qEG, List.getElem_cons_succ, List.getElem_cons_zero] at hu2
    have := qH3 (.reg r0') (by show 0 <= regU 1 r0'; rw [qCn]; decide) trivial gu u Y hLY ((hA.gl.below hX.bx.bel hA.gl.sz).below hb (hA.gl.below hX.bx.bel hA.gl.sz).sz) (qY.toP (ts := [wd r0']) hu2) hcY
    exact this
  ·rintro r w' ⟨⟨ov, rfl, hr⟩, hb⟩
   obtain ⟨oa, oc, hov⟩ := qG hr
   subst hov
   exact ⟨⟨oa, oc, rfl, OpsR.of_row hr⟩, hb⟩
 ·intro X oa oc hX ho
  exact qF1 w gu mb gp mi ln labs its qq old (qAx a) (qHV a h0 h1) (qK7 a) hA hge hits X oa oc hX ho
theorem read_lkN (w W : World) (gu mb gp mi : Nat) (v : Value) (ln : Int) (labs : List (List UInt8 × Nat)) (its : List It) (q : Option (List UInt8 × Int)) (old : Option (Nat × Nat)) (k : Lk) (hk : k.Ok) (hl : k.lab = none) (hpl : ∀ o, o ∈ k.ins.ops -> o.pl) (hA : qAi w) (hge : w.heap.size + 2 <= gu) (h : AlQ w W gu mb gp mi ln labs its q old) (hits : its.length <= 100000) (hv : qI w v k.toks) :
  Calls Tryz.prog 71 #[.pointer (some ⟨gu, 0, none⟩), v] W fun r w' => r = .returned (.int .i64 0) /\ AlQ w w' gu mb gp mi ln labs (its ++ [k.ins.it ln]) q old := by
 have hio := hk.1
 have ht : k.toks = wd k.ins.name :: qBR k.ins.ops := by unfold Lk.toks; rw [hl]; rfl
 rw [ht] at hv
 have hx : qY w v (pc (wd k.ins.name) :: (qBR k.ins.ops).map pc) := qY.of hv
 refine qLd gu v 0 ⟨k.ins.name.toArray⟩ ((qBR k.ins.ops).map pc) (k.ins.ops.map OpK.opd) w W (fun X => AlQ w X gu mb gp mi ln labs its q old) _ ?_ (fun A B h1 h2 => h1.go h2) (fun X hX => hX.bx.bel) ?_ ?_ hx.shape
 ·refine (qG5 gu v _ W (hv.below h.bx.bel (Nat.le_refl _)) hio.lab).mono ?_
  rintro r w' ⟨rfl, hb⟩
  exact ⟨v, rfl, hx, h.go hb⟩
 ·intro X v2 hX hv2
  obtain ⟨nv, hu, _⟩ := hX.ur
  exact opsN_any k.ins.ops hio.ops hpl hio.n gu v2 X (KL.below hA.ex hX.bx.bel) (hA.gl.below hX.bx.bel hA.gl.sz) (hv2.below hX.bx.bel (Nat.le_refl _)) hu.cell0
 ·intro X oa oc hX ho
  exact qF1 w gu mb gp mi ln labs its q old k.ins hio hpl hA hge hits X oa oc hX ho
def RDm (W : World) (k : Lk) (v : Value) : Prop := qI W v k.toks \/ ∃ q a, -100 <= a /\ a <= 100 /\ k = ⟨none, qAx a⟩ /\ qY W v (LI q) /\ InP W q (numK a)
theorem RDm.go {W W' : World} {k : Lk} {v : Value} (h : RDm W k v) (hb : Below W.heap.size W W') : RDm W' k v := by
 rcases h with h | ⟨q, a, h0, h1, h2, h3, h4⟩
 ·exact .inl (h.below hb (Nat.le_refl _))
 ·exact .inr ⟨q, a, h0, h1, h2, h3.below hb (Nat.le_refl _), h4.go hb⟩
def posK (ks : List (Int × Lk)) (i : Nat) : Int := (ks.map (·.1)).getD i 0
theorem qG3 (ks : List (Int × Lk)) (i : Nat) (h : i < ks.length) : posK ks i = ks[i].1 := by simp [posK, h]
def RDk (W : World) (ks : List (Int × Lk)) (i : Nat) (v : Value) : Prop := ∀ k, ks[i]? = some k -> RDm W k.2 v
theorem qKC (w W1 : World) (gu mb gp mi : Nat) (ks : List (Int × Lk)) (ob : Ob) (hA : qAi w) (h : qLy w W1 gu mb gp mi) (hn : ks.length <= 1000) (hok : ∀ a, a ∈ ks -> (a.2.Ok /\ a.2.lab = none) /\ ∀ o, o ∈ a.2.ins.ops -> o.pl) (hfin : ∀ W, FinE W (qAv 0 ks) (fun _ => 0) (itsG ks) ob) : MakesX w gu ks.length (posK ks) (RDk w ks) ob W1 := by
 have hge := h.ge
 refine ⟨⟨fun k W => ∃ ln, AlQ w W gu mb gp mi ln (qAv 0 (ks.take k)) (itsG (ks.take k)) none none, fun W => ∃ ln, AlQ w W gu mb gp mi ln (qAv 0 ks) (itsG ks) none none, fun W' => RdyE w W' gu ob, ⟨0, AlQ.of h.al⟩, ?_, ?_, ?_, ?_, ?_⟩⟩
 ·rintro k W ⟨ln, hn⟩
  obtain ⟨nv, hu, _⟩ := hn.ur
  obtain ⟨_, _, x1, _⟩ := hu.its
  exact ⟨hn.bx, _, x1, ln, rfl⟩
 ·rintro k hk' W v ⟨ln, hn'⟩ hv
  rw [qG3 ks k hk']
  have hli : (itsG (ks.take k)).length = k := by simp [itsG]; omega
  have hll := qFZ (ks.take k) 0
  rw [List.length_take] at hll
  have hlab : ks[k].2.lab = none := (hok _ (List.getElem_mem _)).1.2
  have e1 : qAv 0 (ks.take (k + 1)) = qAv 0 (ks.take k) ++ ks[k].2.labs (itsG (ks.take k)).length := by
   rw [List.take_succ_eq_append_getElem hk', qEf, hli, Nat.zero_add, List.length_take, Nat.min_eq_left (by omega)]
  have e2 : itsG (ks.take (k + 1)) = itsG (ks.take k) ++ [ks[k].2.ins.it ks[k].1] := by
   rw [List.take_succ_eq_append_getElem hk']
   simp only [itsG, List.map_append, List.map_cons, List.map_nil]
  show Calls Tryz.prog _ _ _ fun r w' => r = .returned (.int .i64 0) /\ ∃ ln, AlQ w w' gu mb gp mi ln (qAv 0 (ks.take (k + 1))) (itsG (ks.take (k + 1))) none none
  rw [e1, e2]
  rcases hv _ (List.getElem?_eq_getElem hk') with hv | ⟨q, a, h0, h1, h2, h3, h4⟩
  ·have hlb : ks[k].2.labs (itsG (ks.take k)).length = [] := by simp [Lk.labs, hlab]
   rw [hlb, List.append_nil]
   refine (read_lkN w _ gu mb gp mi v ks[k].1 (qAv 0 (ks.take k)) (itsG (ks.take k)) none none ks[k].2 (hok _ (List.getElem_mem _)).1.1 hlab (hok _ (List.getElem_mem _)).2 hA hge.1 (hn'.line hge.1 _ _) (by omega) hv).mono ?_
   rintro r w' ⟨rfl, hr⟩
   exact ⟨rfl, ks[k].1, hr⟩
  ·refine (read_in w _ gu mb gp mi q v ks[k].1 a h0 h1 (qAv 0 (ks.take k)) (itsG (ks.take k)) none none hA hge.1 (hn'.line hge.1 _ _) (by omega) h3 h4).mono ?_
   rintro r w' ⟨rfl, hr⟩
   refine ⟨rfl, ks[k].1, ?_⟩
   rw [h2]
   simpa [Lk.labs] using hr
 ·rintro W ⟨ln, hn'⟩
  rw [List.take_length] at hn'
  have hp := hn'.po
  obtain ⟨nv, hu, _⟩ := hn'.ur
  obtain ⟨_, _, x1, _⟩ := hu.its
  refine (qFd gu gp none 0 W (qB x1 rfl) (qB hp.1 rfl)).mono ?_
  rintro r w' ⟨rfl, rfl⟩
  exact ⟨rfl, ln, hn'⟩
 ·rintro W ⟨ln, hn'⟩
  exact lay_finE w W gu mb gp mi ln (qAv 0 ks) (fun _ => 0) (itsG ks) none none ob hA hge.1 hn' (hfin W)
 ·rintro W' hr
  exact qIu w W' gu ob hr
def LRm (ks : List (Int × Lk)) (W : World) (v : Value) : Prop := LX W v ks.length (posK ks) (RDk W ks)
theorem LRm.go {ks : List (Int × Lk)} {W W' : World} {v : Value} (h : LRm ks W v) (hb : Below W.heap.size W W') : LRm ks W' v := by
 obtain ⟨ad, cap, rfl, hm, h⟩ := h
 refine ⟨ad, cap, rfl, hm, fun h0 => ?_⟩
 obtain ⟨b, o, rfl, hlt, hx⟩ := h h0
 refine ⟨b, o, rfl, Nat.lt_of_lt_of_le hlt hb.size, fun i hi => ?_⟩
 obtain ⟨td, tn, tc, r0, r1, r2⟩ := hx i hi
 exact ⟨td, tn, tc, (hb.cell (by exact hlt)).trans r0, (hb.cell (by exact hlt)).trans r1, fun k hk => (r2 k hk).go hb⟩
theorem qH8 (k : Nat) (l : List Int) (h : ∀ n, n ∈ l -> -100 <= n /\ n <= 100) : ∀ a, a ∈ qBI k l -> (a.2.Ok /\ a.2.lab = none) /\ ∀ o, o ∈ a.2.ins.ops -> o.pl := by
 intro a ha
 refine ⟨ksMac_ok k l h a ha, ?_⟩
 simp only [qBI, List.mem_cons, List.mem_append, List.not_mem_nil, or_false] at ha
 rcases ha with rfl | ha | rfl | rfl
 ·intro o ho
  simp only [qCA, List.mem_cons, List.not_mem_nil, or_false] at ho
  rcases ho with rfl | rfl
  ·exact pl_opS 0
  ·trivial
 ·obtain ⟨n, hn, e⟩ := qFG l _ a ha
  rw [e]
  exact qK7 n
 ·intro o ho
  simp only [iTr, List.mem_cons, List.not_mem_nil, or_false] at ho
  subst ho
  trivial
 ·intro o ho
  simp only [iTr, List.mem_cons, List.not_mem_nil, or_false] at ho
  subst ho
  trivial
theorem unit_mac (v : Value) (l : List Int) (hl : l.length <= 12) (h : ∀ n, n ∈ l -> -100 <= n /\ n <= 100) (w : World) (hA : qAi w) (hv : Sc.qBL w v (srcB (qAa l)))
  (hsh : ∀ v W, Below w.heap.size w W -> LIn W v (srcN (qAa l)) -> Calls Tryz.prog 43 #[v] W fun r w' => (∃ lv, r = .returned (.tuple #[lv, .slice none 0 0, .agg #[.int .i64 0, .int .i64 0]]) /\ LRm (qBI 4 l) w' lv) /\ Below W.heap.size W w') : qCy v (qCT l) w := by
 refine qKM v (srcB (qAa l)) (srcN (qAa l)) (qCT l) w (LRm (qBI 4 l)) hv (macS_src l hl h) hA.gl (fun W v hr => by obtain ⟨ad, cap, e, _⟩ := hr; exact ⟨_, _, _, e⟩) (fun W W' v hr hb => hr.go hb) hsh ?_
 intro u W hbw hr
 exact qHr u _ _ _ (qCT l) W hr (by rw [qDz]; omega) fun gu mb gp mi W1 hb => qKC W W1 gu mb gp mi (qBI 4 l) (qCT l) (hA.next hbw) hb (by rw [qDz]; omega) (qH8 4 l h) (fun X => finMac X 4 l hl h)
theorem lrd_lrm {ks : List (Int × Lk)} {W : World} {v : Value} (h : LRd W v (ks.map fun a => (a.1, a.2.toks))) : LRm ks W v := by
 obtain ⟨ad, cap, rfl, hm, h⟩ := h
 rw [List.length_map] at hm ⊢
 refine ⟨ad, cap, rfl, hm, fun h0 => ?_⟩
 obtain ⟨b, o, rfl, hlt, hx⟩ := h (by simpa using h0)
 refine ⟨b, o, rfl, hlt, fun i hi => ?_⟩
 obtain ⟨td, tn, tc, r0, r1, r2⟩ := hx i (by simpa using hi)
 simp only [List.getElem_map] at r1 r2
 refine ⟨td, tn, tc, r0, by rw [qG3 ks i hi]; exact r1, fun k hk => .inl ?_⟩
 have : ks[i] = k := by
  have := List.getElem?_eq_getElem hi
  rw [hk] at this
  exact (Option.some.inj this).symm
 rw [<- this]
 exact r2
theorem qLa (v : Value) (src : List UInt8) (lns : List Sc.Ln) (ks : List (Int × Lk)) (ob : Ob) (w : World) (hA : qAi w) (hv : Sc.qBL w v src) (hsrc : Sc.qAJ src = .ok lns) (hln : lns.length <= 200) (hpl : ∀ x, x ∈ lns -> x.toks.length <= 100000 /\ qZ (qA0 (x.toks.map tkOf))) (hks : lns.map lnOf = ks.map fun a => (a.1, a.2.toks)) (hok : ∀ a, a ∈ ks -> (a.2.Ok /\ a.2.lab = none) /\ ∀ o, o ∈ a.2.ins.ops -> o.pl) (hfin : ∀ W, FinE W (qAv 0 ks) (fun _ => 0) (itsG ks) ob) : qCy v ob w := by
 have hkl : ks.length = lns.length := by simpa using (congrArg List.length hks).symm
 refine qKM v src lns ob w (LRm ks) hv hsrc hA.gl (fun W v hr => by obtain ⟨ad, cap, e, _⟩ := hr; exact ⟨_, _, _, e⟩) (fun W W' v hr hb => hr.go hb) ?_ ?_
 ·intro u W _ hli
  refine (qKt u lns W hli hln (fun l hl => (hpl l hl).1) (fun l hl => (hpl l hl).2)).mono ?_
  rintro r w' ⟨⟨lv, e, hr⟩, hb⟩
  rw [hks] at hr
  exact ⟨⟨lv, e, lrd_lrm hr⟩, hb⟩
 ·intro u W hbw hr
  exact qHr u _ _ _ ob W hr (by omega) fun gu mb gp mi W1 hb => qKC W W1 gu mb gp mi ks ob (hA.next hbw) hb (by omega) hok hfin
theorem qJ2 (v : Value) (l : List Int) (hl : l.length <= 12) (h : ∀ n, n ∈ l -> -100 <= n /\ n <= 100) (w : World) (hA : qAi w) (hv : Sc.qBL w v (srcB (qBw l))) : qCy v (qCT l) w :=
 qLa v (srcB (qBw l)) (srcN (qBw l)) (qBI 1 l) (qCT l) w hA hv (adsS_src l hl h) (by rw [qHu, qJz]; omega) (qJT _ (qIv l)) (adsN_eq l) (qH8 1 l h) (fun X => finMac X 1 l hl h)
theorem qIQ (v : Value) (w : World) (hA : qAi w) (hv : Sc.qBL w v qG0) : qCy v qC7 w := by
 refine qLa v qG0 qKH qD6 qC7 w hA hv five_src (by decide) ?_ rfl ?_ qL1
 ·intro x hx
  have hin : x = ⟨1, qK9⟩ \/ x = ⟨2, tr1T⟩ \/ x = ⟨3, tr0T⟩ := by simpa [qKH, qJd, qA5] using hx
  rcases hin with rfl | rfl | rfl <;> exact ⟨by simp [qK9, tr1T, tr0T], ph_of _ _ (by decide)⟩
 ·intro a ha
  have hr0 : 0 <= regU 1 r0' := by rw [qCn]; decide
  simp only [qD6, List.mem_cons, List.not_mem_nil, or_false] at ha
  rcases ha with rfl | rfl | rfl
  ·exact ⟨⟨⟨qGo 5 r0' hr0 (by rw [qCn]; kernel_rfl), by simp⟩, rfl⟩, by simp [iMov, OpK.pl]⟩
  ·exact ⟨⟨⟨qEY 1 (by kernel_rfl), by simp⟩, rfl⟩, by simp [iTr, OpK.pl]⟩
  ·exact ⟨⟨⟨qEY 0 (by kernel_rfl), by simp⟩, rfl⟩, by simp [iTr, OpK.pl]⟩
theorem qJB (w : World) (hA : qAi w) : Says qG0 qC7 0 (qAo qFs) [] [5] w := by
 refine ⟨fun W v hW hv => qIQ v W (hA.next hW) hv, qEt, fun x hx => by simp [qC7] at hx, qLk, ?_, by decide, by decide, by rw [qIM]; decide, by simp, by decide⟩
 rw [qIp]
 exact five_run (at_new five4)
theorem paliveN (w : World) (hA : qAi w) : Calls Tryz.prog 4 #[] w fun e w' => e = .returned (.bool true) /\ Below w.heap.size w w' := by
 have HT : Hid (∀ W lb lc, Below w.heap.size w W -> W.heap[lb]? = some (.cells #[.string ⟨qG0.toArray⟩] 9 (0, 0)) -> Calls Tryz.prog 6 #[.int .i64 0, .slice (some ⟨lb, 0, none⟩) 1 lc] W fun e w' => (∃ ta tc, e = .returned (.tuple #[.slice ta 1 tc, .int .i64 0]) /\ Si.TRd w' ta [5]) /\ Below W.heap.size W w') := fun W lb lc hW hs => qFD qG0 qC7 0 _ _ _ lb lc W (qJB W (hA.next hW)) (hA.next hW).isa hs
 clear hA
 go_enter Tryz.func4, Tryz.ntmps4
 go_wp2_with fail
 refine (HT.out _ _ _ (qE _ _) (by rw [qLt]; exact qH _ _ rfl)).mono ?_
 rintro e w1 ⟨⟨ta, tc, rfl, htr⟩, hb1⟩
 obtain ⟨b, off, rfl, hlt, hc⟩ := htr (by simp)
 have c0 : w1.cell? ⟨b, off, none⟩ = some (.int .i64 5) := hc 0 (by simp)
 have HB1 := Lib.hid ((qE w _).trans (hb1.mono (by simp)))
 clear hb1 hc HT
 go_wp2_with fail
 go_ret
 exact ⟨rfl, HB1.out⟩
end Go.Proofs.YtgjmbjahgcndnaaGreatDoor
namespace Go.Proofs.YtgjmbjahgcndnaaGreatDoor
open Go.RowKit
structure Tl where
 ts : List Sc.Tok
 lk : Lk
 call : Option Int
def tlM (l : List Int) : List Tl := ⟨qBj, ⟨none, qCA 0⟩, none⟩ :: (l.map (fun a => ⟨qCq a, ⟨none, qAx a⟩, some a⟩) ++ [⟨tr1T, ⟨none, iTr 1⟩, none⟩, ⟨tr0T, ⟨none, iTr 0⟩, none⟩])
def ckT (x : Tl) : Ck := ⟨1, if x.call = none then 1 else 2, []⟩
def csM (l : List Int) : List Ck := ⟨3, 1, []⟩ :: (tlM l).map ckT
theorem qDS (l : List Int) : (tlM l).length = l.length + 3 := by simp [tlM]
theorem qD8 (l : List Int) : (csM l).length = l.length + 4 := by simp [csM, qDS]
theorem posT : ∀ (L : List Tl) (j : Nat), j <= L.length -> posC ((L.map ckT).take j) = j
 | _, 0, _ => by simp [posC]
 | [], j + 1, h => by simp at h
 | a :: L, j + 1, h => by
   have ih := posT L j (by simpa using h)
   simp only [List.map_cons, List.take_succ_cons, posC, List.sum_cons] at ih ⊢
   rw [ih]
   simp only [ckT]
   omega
theorem posM (l : List Int) (j : Nat) (h : j <= l.length + 3) : posC ((csM l).take (j + 1)) = j + 3 := by
 have := posT (tlM l) j (by rw [qDS]; exact h)
 simp only [csM, List.take_succ_cons, posC, List.map_cons, List.sum_cons] at this ⊢
 rw [this]
 omega
theorem posM_all (l : List Int) : posC (csM l) = l.length + 6 := by
 have := posM l (l.length + 3) (Nat.le_refl _)
 rw [List.take_of_length_le (by rw [qD8]; omega)] at this
 omega
theorem lookT : ∀ (L : List Tl), qAp (L.map ckT) <= 2 * L.length
 | [] => by simp [qAp]
 | a :: L => by
   have ih := lookT L
   simp only [List.map_cons, qAp, List.sum_cons, List.length_cons] at ih ⊢
   have : (ckT a).lk <= 2 := by simp only [ckT]; split <;> omega
   omega
theorem qJi (l : List Int) : qAp (csM l) <= 2 * l.length + 7 := by
 have := lookT (tlM l)
 rw [qDS] at this
 simp only [csM, qAp, List.map_cons, List.sum_cons] at this ⊢
 omega
theorem csM_13 (l : List Int) : ∀ x, x ∈ csM l -> (x.c = 1 \/ x.c = 3) /\ 1 <= x.lk := by
 intro x hx
 simp only [csM, List.mem_cons, List.mem_map] at hx
 rcases hx with rfl | ⟨a, _, rfl⟩
 ·exact ⟨.inr rfl, Nat.le_refl _⟩
 ·refine ⟨.inl rfl, ?_⟩
  simp only [ckT]
  split <;> omega
theorem csM_at (l : List Int) (j : Nat) (h : j + 1 < (csM l).length) : (csM l)[j + 1] = ckT ((tlM l)[j]'(by rw [qD8] at h; rw [qDS]; omega)) := by
 simp [csM]
theorem tlM_ok (l : List Int) (h : ∀ n, n ∈ l -> -100 <= n /\ n <= 100) : ∀ x, x ∈ tlM l -> (x.call = none /\ x.lk.toks = x.ts.map tkOf /\ qZ (qA0 (x.ts.map tkOf)) /\ (qA0 (x.ts.map tkOf) == nmM) = false /\ 0 < x.ts.length) \/ ∃ a, -100 <= a /\ a <= 100 /\ x = ⟨qCq a, ⟨none, qAx a⟩, some a⟩ := by
 intro x hx
 simp only [tlM, List.mem_append, List.mem_cons, List.not_mem_nil, or_false, List.mem_map] at hx
 rcases hx with rfl | ⟨n, hn, rfl⟩ | rfl | rfl
 ·exact .inl ⟨rfl, rfl, ph_of _ _ (by decide), by decide, by decide⟩
 ·exact .inr ⟨n, (h n hn).1, (h n hn).2, rfl⟩
 ·exact .inl ⟨rfl, rfl, ph_of _ _ (by decide), by decide, by decide⟩
 ·exact .inl ⟨rfl, rfl, ph_of _ _ (by decide), by decide, by decide⟩
theorem qHi : ∀ (L : List (List Sc.Tok)) (k i : Nat) (h : i < L.length), (qA5 k L)[i]? = some ⟨((k + i : Nat) : Int), L[i]⟩
 | a :: L, k, 0, _ => by simp [qA5]
 | a :: L, k, i + 1, h => by
   have ih := qHi L (k + 1) i (by simpa using h)
   simp only [qA5, List.getElem?_cons_succ, List.getElem_cons_succ]
   rw [ih, show k + 1 + i = k + (i + 1) by omega]
theorem macN (l : List Int) : srcN (qAa l) = qA5 1 ([mcrT, qDf, qEK] ++ (tlM l).map (·.ts)) := by
 have : (qAa l).map (·.2) = [mcrT, qDf, qEK] ++ (tlM l).map (·.ts) := by simp [qAa, tlM]
 rw [srcN, this]
theorem qHs (l : List Int) : (srcN (qAa l)).length = l.length + 6 := by
 rw [qHu]
 simp [qAa]
theorem macN_at (l : List Int) (j : Nat) (h : j < (tlM l).length) : (srcN (qAa l))[j + 3]? = some ⟨((j + 4 : Nat) : Int), (tlM l)[j].ts⟩ := by
 rw [macN, qHi _ 1 (j + 3) (by simp; omega)]
 have e : ([mcrT, qDf, qEK] ++ (tlM l).map (·.ts))[j + 3]'(by simp; omega) = (tlM l)[j].ts := by
  rw [List.getElem_append_right (by simp)]
  simp
 rw [e, show 1 + (j + 3) = j + 4 by omega]
def numE (k : Nat) : List Lk -> List (Int × Lk)
 | [] => []
 | x :: r => ((k : Int), x) :: numE (k + 1) r
theorem qJy : ∀ (L : List Lk) (k i : Nat) (h : i < L.length), (numE k L)[i]? = some (((k + i : Nat) : Int), L[i])
 | a :: L, k, 0, _ => by simp [numE]
 | a :: L, k, i + 1, h => by
   have ih := qJy L (k + 1) i (by simpa using h)
   simp only [numE, List.getElem?_cons_succ, List.getElem_cons_succ]
   rw [ih, show k + 1 + i = k + (i + 1) by omega]
theorem addK_E : ∀ (l : List Int) (k : Nat) (r : List Lk), numE k (l.map (fun a => (⟨none, qAx a⟩ : Lk)) ++ r) = addK k l ++ numE (k + l.length) r
 | [], k, r => by simp [addK]
 | a :: l, k, r => by
   have ih := addK_E l (k + 1) r
   simp only [List.map_cons, List.cons_append, numE, addK]
   rw [ih, List.length_cons, show k + 1 + l.length = k + (l.length + 1) by omega]
theorem ksM_E (l : List Int) : qBI 4 l = numE 4 ((tlM l).map (·.lk)) := by
 have : (tlM l).map (·.lk) = (⟨none, qCA 0⟩ : Lk) :: (l.map (fun a => (⟨none, qAx a⟩ : Lk)) ++ [⟨none, iTr 1⟩, ⟨none, iTr 0⟩]) := by simp [tlM]
 rw [this, numE, addK_E, qBI]
 simp only [numE, List.cons.injEq, List.append_cancel_left_eq, and_true, true_and, Prod.mk.injEq]
 omega
theorem ksM_at (l : List Int) (j : Nat) (h : j < (tlM l).length) : (qBI 4 l)[j]? = some (((j + 4 : Nat) : Int), (tlM l)[j].lk) := by
 rw [ksM_E, qJy _ 4 j (by simpa using h), List.getElem_map, show 4 + j = j + 4 by omega]
theorem qJu (a : Int) : (qCq a).map tkOf = ⟨1, 0, nmM⟩ :: numK a := by
 unfold qCq numT numK
 split <;> rfl
theorem qGX (a : Int) : qAu (numK a) = [numK a] := by
 unfold numK
 split
 ·simp [qAu, qAO, qAV, ByteArray.toList_eq]
 ·simp [qAu, qAO, qAV]
def qJC : List Tk := [wd [97, 100, 100], sg 35, wd [110], qBH, wd r0']
theorem addn_to (q : Nat) : qJC.map (toN nmN q) = LI q := by
 have e : ∀ x : Tk, isNm nmN x = false -> toN nmN q x = pc x := fun x h => by simp [toN, h]
 have e2 : toN nmN q (wd [110]) = ⟨⟨0, 0, ⟨#[]⟩⟩, some ⟨q, 0, none⟩⟩ := by
  have : isNm nmN (wd [110]) = true := by simp [isNm, nmN, wd, ByteArray.toList_eq]
  simp [toN, this]
 simp only [qJC, List.map_cons, List.map_nil, LI, e2]
 rw [e _ (by simp [isNm, nmN, wd, ByteArray.toList_eq]), e _ (by simp [isNm, sg]), e _ (by simp [isNm, qBH]), e _ (by simp [isNm, nmN, wd, r0', ByteArray.toList_eq])]
def Mct (W : World) (pb lb : Nat) (p : ByteArray) (lg lo : Nat) : Prop := ∃ b o cap lc, W.heap[pb]? = some (.cells #[.slice (some ⟨b, o, none⟩) 1 cap] 29 (0, 0)) /\ (∃ cs, W.heap[b]? = some (.cells cs 9 (0, 0)) /\ cs[o]? = some (.string p)) /\ W.heap[lb]? = some (.cells #[.slice (some ⟨lg, lo, none⟩) 1 lc] 99 (0, 0))
theorem Mct.kt {W W' : World} {pb lb lg lo : Nat} {p : ByteArray} (h : Mct W pb lb p lg lo) (hk : KT W W') : Mct W' pb lb p lg lo := by
 obtain ⟨b, o, cap, lc, h1, ⟨cs, h2, h3⟩, h4⟩ := h
 exact ⟨b, o, cap, lc, hk _ _ _ _ h1 (by decide) (by decide), ⟨cs, hk _ _ _ _ h2 (by decide) (by decide), h3⟩, hk _ _ _ _ h4 (by decide) (by decide)⟩
theorem Mct.of {W : World} {pb lb lg lo : Nat} {p : ByteArray} {t1 : List Tk} (h : Mcr W pb lb p t1 lg lo) : Mct W pb lb p lg lo := by
 obtain ⟨b, o, cap, lc, v1, p1, h1, h2, h3, _⟩ := h
 exact ⟨b, o, cap, lc, h1, h2, h3⟩
theorem Mct.to {W : World} {pb lb lg lo : Nat} {p : ByteArray} {t1 : List Tk} (h : Mct W pb lb p lg lo) {v1 : Value} {p1 : Int} (h4 : W.cell? ⟨lg, lo, none⟩ = some v1) (h5 : W.cell? ⟨lg, lo + 1, none⟩ = some (.int .i64 p1)) (h6 : qI W v1 t1) : Mcr W pb lb p t1 lg lo := by
 obtain ⟨b, o, cap, lc, h1, h2, h3⟩ := h
 exact ⟨b, o, cap, lc, v1, p1, h1, h2, h3, h4, h5, h6⟩
theorem qBV {W W' : World} {gw mb : Nat} {v : Value} {ts : List Tk} (h : qI W v ts) (hv : ∀ j, v.ownBlock = some j -> j ≠ gw /\ j ≠ mb) (hf : F2 gw mb W W') : qI W' v ts := by
 obtain ⟨ad, cap, rfl, hc, hm, h⟩ := h
 refine ⟨ad, cap, rfl, hc, hm, fun h0 => ?_⟩
 obtain ⟨b, o, rfl, hlt, hx⟩ := h h0
 obtain ⟨n1, n2⟩ := hv b rfl
 have hbk := hf.block b hlt n1 n2
 refine ⟨b, o, rfl, Nat.lt_of_lt_of_le hlt hf.size, fun i hi => ?_⟩
 have hc : ∀ j, W'.cell? ⟨b, j, none⟩ = W.cell? ⟨b, j, none⟩ := fun j => by simp only [World.cell?, hbk]
 rw [hc, hc, hc, hc]
 exact hx i hi
def RDt (gw mb : Nat) (W1 W : World) (k : Lk) (v : Value) : Prop := (qI W1 v k.toks /\ ∀ j, v.ownBlock = some j -> j ≠ gw /\ j ≠ mb) \/ ∃ q a, -100 <= a /\ a <= 100 /\ k = ⟨none, qAx a⟩ /\ (∃ base, W.ownsRow base 180 4 v 5 (pcCs (LI q))) /\ ∃ base, InT W base q (numK a)
theorem RDt.kt {gw mb : Nat} {W1 W W' : World} {k : Lk} {v : Value} (h : RDt gw mb W1 W k v) (hk : KT W W') : RDt gw mb W1 W' k v := by
 rcases h with h | ⟨q, a, h0, h1, h2, ⟨b1, h3⟩, b2, h4⟩
 ·exact .inl h
 ·exact .inr ⟨q, a, h0, h1, h2, ⟨b1, own_k h3 hk (by decide) (by decide)⟩, b2, h4.kt hk⟩
theorem RDt.to {gw mb : Nat} {W1 W : World} {k : Lk} {v : Value} (h : RDt gw mb W1 W k v) (hf : F2 gw mb W1 W) : RDm W k v := by
 rcases h with h | ⟨q, a, h0, h1, h2, ⟨b1, h3⟩, b2, h4⟩
 ·exact .inl (qBV h.1 h.2 hf)
 ·exact .inr ⟨q, a, h0, h1, h2, qD7 h3, h4.toX⟩
def qGh (gw mb : Nat) (W1 W : World) (l : List Int) (ps : List (Value × Int)) : Prop := ∀ i (h : i < ps.length), ∃ kk, (qBI 4 l)[i]? = some kk /\ ps[i].2 = kk.1 /\ RDt gw mb W1 W kk.2 ps[i].1
theorem qGh.kt {gw mb : Nat} {W1 W W' : World} {l : List Int} {ps : List (Value × Int)} (h : qGh gw mb W1 W l ps) (hk : KT W W') : qGh gw mb W1 W' l ps := fun i hi => by
 obtain ⟨kk, h1, h2, h3⟩ := h i hi
 exact ⟨kk, h1, h2, h3.kt hk⟩
theorem qGh.snoc {gw mb : Nat} {W1 W : World} {l : List Int} {ps : List (Value × Int)} (h : qGh gw mb W1 W l ps) {v : Value} {p : Int} {kk : Int × Lk} (h1 : (qBI 4 l)[ps.length]? = some kk) (h2 : p = kk.1) (h3 : RDt gw mb W1 W kk.2 v) : qGh gw mb W1 W l (ps ++ [(v, p)]) := fun i hi => by
 by_cases hlt : i < ps.length
 ·rw [List.getElem_append_left hlt]
  exact h i hlt
 ·have : i = ps.length := by simp at hi; omega
  subst this
  refine ⟨kk, h1, ?_, ?_⟩ <;> simp [h2, h3]
def StM (gw mb g0 : Nat) (l : List Int) (W1 : World) (off : Int) (j : Nat) (W : World) : Prop :=
 F2 gw mb W1 W /\ (if j = 0 then WM W W1.heap.size gw (.slice none 0 0) mb #[] 0 off [] else ∃ lv pb lb ps, WM W W1.heap.size gw lv mb (mcE pb lb) 1 off ps /\ Mct W pb lb nmN g0 2 /\ ps.length = j - 1 /\ qGh gw mb W1 W l ps)
theorem StM.go {gw mb g0 : Nat} {l : List Int} {W1 W W' : World} {off : Int} {j : Nat} (h : StM gw mb g0 l W1 off j W) (hb : Below W.heap.size W W') : StM gw mb g0 l W1 off j W' := by
 obtain ⟨h1, h2⟩ := h
 refine ⟨h1.trans (F2.below hb), ?_⟩
 split
 ·rename_i e
  rw [if_pos e] at h2
  exact h2.go hb
 ·rename_i e
  rw [if_neg e] at h2
  obtain ⟨lv, pb, lb, ps, k1, k2, k3, k4⟩ := h2
  exact ⟨lv, pb, lb, ps, k1.go hb, k2.kt (KT.below hb), k3, k4.kt (KT.below hb)⟩
theorem StM.look {gw mb g0 : Nat} {l : List Int} {W1 W : World} {off : Int} {j : Nat} (h : StM gw mb g0 l W1 off j W) (off' : Int) : StM gw mb g0 l W1 off' j (W.setCell ⟨gw, 3, none⟩ (.int .i64 off')) := by
 obtain ⟨h1, h2⟩ := h
 refine ⟨h1.trans (F2.left (gset W gw 3 _)), ?_⟩
 split
 ·rename_i e
  rw [if_pos e] at h2
  exact h2.look off'
 ·rename_i e
  rw [if_neg e] at h2
  obtain ⟨lv, pb, lb, ps, k1, k2, k3, k4⟩ := h2
  have hk : KT W (W.setCell ⟨gw, 3, none⟩ (.int .i64 off')) := KT.set k1.box
  exact ⟨lv, pb, lb, ps, k1.look off', k2.kt hk, k3, k4.kt hk⟩
theorem StM.box {gw mb g0 : Nat} {l : List Int} {W1 W : World} {off : Int} {j : Nat} (h : StM gw mb g0 l W1 off j W) : ∃ lv qv, W.heap[gw]? = some (.cells #[lv, qv, .map (some mb), .int .i64 off] 134 (0, 0)) := by
 obtain ⟨_, h2⟩ := h
 split at h2
 ·exact ⟨_, _, h2.box⟩
 ·obtain ⟨lv, pb, lb, ps, k1, _⟩ := h2
  exact ⟨_, _, k1.box⟩
theorem F2.fr {gw mb : Nat} {W1 W W' : World} (h : F2 gw mb W1 W) (k : Fr gw W1.heap.size W W') : F2 gw mb W1 W' := ⟨k.os.trans h.os, k.tape.trans h.tape, k.output.trans h.output, Nat.le_trans h.size k.size, fun i hi h1 h2 => (k.block i hi h1).trans (h.block i hi h1 h2)⟩
theorem mac_do (gw mb g0 : Nat) (l : List Int) (hl : l.length <= 12) (hb : ∀ n, n ∈ l -> -100 <= n /\ n <= 100) (f : Nat -> Value × Int) (w0 W1 : World) (hg0 : g0 = w0.heap.size) (hf : RdAt w0 W1 (l.length + 6) (srcN (qAa l)) (l.length + 6) f) (hgw : gw < w0.heap.size) (hmb : mb < w0.heap.size) (h : WM W1 W1.heap.size gw (.slice none 0 0) mb #[] 0 0 []) :
  Calls Tryz.prog 68 #[.pointer (some ⟨gw, 0, none⟩), .slice (some ⟨g0, 0, none⟩) (l.length + 6) (l.length + 6), .int .i64 0] W1 fun r w' => r = .returned (.agg #[.int .i64 0, .int .i64 0]) /\ StM gw mb g0 l W1 (0 + (qAp (csM l) : Int)) (csM l).length w' := by
 have hrow := hf.1
 rw [<- hg0] at hrow
 have hlt := hrow.lt
 have hlen := qHs l
 have hpos := posM_all l
 have hll := qJi l
 have hgl : g0 ≠ gw /\ g0 ≠ mb := by omega
 -- a line of the source, in a later world
 have hrd : ∀ W, F2 gw mb W1 W -> ∀ q (hq : q < (srcN (qAa l)).length), W.cell? ⟨g0, q * 2, none⟩ = some (f q).1 /\ W.cell? ⟨g0, q * 2 + 1, none⟩ = some (.int .i64 (f q).2) /\ (f q).2 = (srcN (qAa l))[q].pos /\ qI W1 (f q).1 ((srcN (qAa l))[q].toks.map tkOf) /\ (∀ j, (f q).1.ownBlock = some j -> j ≠ gw /\ j ≠ mb) := fun W hF q hq => by
  obtain ⟨a1, a2, a3⟩ := hf.2.1 q hq (by omega)
  have hr := hrow.keep (hF.block g0 hlt hgl.1 hgl.2)
  refine ⟨hr.cell0 (by omega), hr.cell1 (by omega), a1, a2, fun j e => ?_⟩
  have := a3 j e
  omega
 have hln : ∀ j (hj : j < (tlM l).length), ∃ hq : j + 3 < (srcN (qAa l)).length, (srcN (qAa l))[j + 3] = ⟨((j + 4 : Nat) : Int), (tlM l)[j].ts⟩ := fun j hj => by
  have := macN_at l j hj
  exact List.getElem?_eq_some_iff.1 this
 have h3 : ∃ (q0 : 0 < (srcN (qAa l)).length) (q1 : 1 < (srcN (qAa l)).length) (q2 : 2 < (srcN (qAa l)).length), (srcN (qAa l))[0].toks = mcrT /\ (srcN (qAa l))[1].toks = qDf /\ (srcN (qAa l))[2].toks = qEK := ⟨by omega, by omega, by omega, by
  refine ⟨?_, ?_, ?_⟩ <;> simp [macN, qA5]⟩
 have := do_gs gw mb 0 g0 0 (l.length + 6) (csM l) 0 W1 (fun j W => StM gw mb g0 l W1 (0 + (qAp ((csM l).take j) : Int)) j W) (fun j W => StM gw mb g0 l W1 (0 + (qAp ((csM l).take j) : Int) + 1) j W)
  ⟨F2.below (Below.refl _ _), by simpa [qAp] using h⟩ (by omega) (by omega) (by omega) (by omega) (by omega) (by unfold maxLen; omega) (csM_13 l) hlt (fun j W hs => by
   obtain ⟨lv, qv, hx⟩ := hs.box
   exact ⟨lv, qv, hx⟩) (fun j W hs => hs.look _) (fun j W W' hs hb => hs.go hb) ?_
 ·rw [hpos] at this
  refine this.mono ?_
  rintro r w' ⟨e1, e2, _⟩
  rw [List.take_length] at e2
  exact ⟨e1, e2⟩
 ·intro j hj W hT hgW
  obtain ⟨hF, hT⟩ := hT
  have hls := qEl _ hj
  have hlk2 := qEq (csM l) (j + 1)
  cases j with
  | zero =>
    rw [if_pos rfl] at hT
    obtain ⟨q0, q1, q2, t0, t1, t2⟩ := h3
    obtain ⟨a0, a1, a2, a3, a4⟩ := hrd W hF 0 q0
    obtain ⟨b0, b1, b2, b3, b4⟩ := hrd W hF 1 q1
    obtain ⟨c0, c1, c2, c3, c4⟩ := hrd W hF 2 q2
    rw [t0] at a3
    rw [t1] at b3
    rw [t2] at c3
    have hV : L3 W g0 0 (f 0).1 (f 1).1 (f 2).1 (f 0).2 (f 1).2 (f 2).2 [⟨1, 0, qDn⟩, ⟨1, 0, nmM⟩, ⟨1, 0, nmN⟩] qJC [⟨1, 0, qDY⟩] :=
     ⟨hgW, a3.shape, b3.shape, c3.shape, a0, a1, b0, b1, c0, c1, qBV a3 a4 hF, qBV b3 b4 hF, qBV c3 c4 hF⟩
    have e1 : posC (csM l) - posC ((csM l).take 0) = (l.length + 3) + 3 := by rw [hpos]; simp [posC]
    have e2 : posC ((csM l).take 0) = 0 := by simp [posC]
    rw [e1, e2]
    have := step_mac gw mb (.slice none 0 0) (.slice none 0 0) _ g0 0 (l.length + 3) (l.length + 6) _ _ _ _ _ _ 0 ⟨1, 0, qDn⟩ ⟨1, 0, qDY⟩ qJC W hT.box hT.mp hV (by omega) (by omega) (by unfold maxLen; omega) rfl (show qZ (qA0 (qDf.map tkOf)) from ph_of _ _ (by decide)) rfl
    refine this.mono ?_
    rintro r w' ⟨rfl, ⟨pb, lb, m1, m2⟩, hg⟩
    have hk : KT W w' := fun i c t z hi _ _ => qBM hg hT.mp hi
    refine ⟨rfl, ⟨⟨hg.os.trans hF.os, hg.tape.trans hF.tape, hg.output.trans hF.output, Nat.le_trans hF.size hg.size, fun i hi g1 g2 => (hg.block i (Nat.lt_of_lt_of_le hi hF.size) (fun e => g2 (by injection e with e))).trans (hF.block i hi g1 g2)⟩, ?_⟩, hk, hg.size⟩
    rw [if_neg (by omega)]
    refine ⟨.slice none 0 0, pb, lb, [], ⟨?_, World.ownsRow_nil _ _ _ _, m1, hT.lt⟩, Mct.of m2, rfl, fun i hi => by simp at hi⟩
    rw [qBM hg hT.mp hT.box]
    rw [hls]
    simp [csM]
  | succ j =>
    rw [if_neg (by omega)] at hT
    obtain ⟨lv, pb, lb, ps, k1, k2, k3, k4⟩ := hT
    have hjt : j < (tlM l).length := by rw [qD8] at hj; rw [qDS]; omega
    have hjl : j <= l.length + 2 := by rw [qDS] at hjt; omega
    obtain ⟨hq, hlq⟩ := hln j hjt
    obtain ⟨a0, a1, a2, a3, a4⟩ := hrd W hF (j + 3) hq
    rw [hlq] at a2 a3
    have hps : ps.length = j := by omega
    have e2 : posC ((csM l).take (j + 1)) = j + 3 := posM l j (by omega)
    obtain ⟨n, hn⟩ : ∃ n, posC (csM l) - posC ((csM l).take (j + 1)) = n + 1 := ⟨l.length + 2 - j, by rw [hpos, e2]; omega⟩
    rw [hn, e2]
    simp only [Nat.zero_add]
    have hck := csM_at l j hj
    have hks := ksM_at l j hjt
    rcases tlM_ok l hb _ (List.getElem_mem hjt) with ⟨c0, c1, c2, c3, c4⟩ | ⟨a, ha0, ha1, hx⟩
    ·obtain ⟨ad, len, lcap, he⟩ := a3.shape
     have hl1 : ((csM l)[j + 1]).lk = 1 := by rw [hck]; simp [ckT, c0]
     have hc1 : ((csM l)[j + 1]).c = 1 := by rw [hck]; rfl
     have hr := qBV a3 a4 hF
     rw [he] at a0 hr
     have := step_m gw mb lv (mcE pb lb) 1 _ ps g0 ((j + 3) * 2) n (l.length + 6 - (j + 3)) ad len lcap (f (j + 3)).2 0 (qA0 ((tlM l)[j].ts.map tkOf)) W W1.heap.size hF.size k1 (by omega) a0 a1 hgW (fun W' hb' => qBx _ _ W' (hr.below hb' (Nat.le_refl _))) c2 (fun W' hm' => lookN mb pb lb _ c3 W' hm')
     refine this.mono ?_
     rintro r w' ⟨rfl, ⟨lv', m1⟩, m2, m3⟩
     have hk := KT.ofM k1 m3
     refine ⟨by rw [hc1]; rfl, ⟨hF.fr m2, ?_⟩, hk, m2.size⟩
     rw [if_neg (by omega)]
     refine ⟨lv', pb, lb, ps ++ [(.slice ad len lcap, (f (j + 3)).2)], ?_, k2.kt hk, by simp; omega, (k4.kt hk).snoc (kk := (((j + 4 : Nat) : Int), (tlM l)[j].lk)) (by rw [hps]; exact hks) a2 (.inl ⟨by rw [c1, <- he]; exact a3, fun i e => a4 i (by rw [he]; exact e)⟩)⟩
     have e9 : (0 : Int) + (qAp ((csM l).take (j + 1 + 1)) : Int) = 0 + (qAp ((csM l).take (j + 1)) : Int) + 1 := by rw [hls, hl1]; omega
     rw [e9]
     exact m1
    ·have hts : (tlM l)[j].ts.map tkOf = ⟨1, 0, nmM⟩ :: numK a := by rw [hx]; exact qJu a
     have hlk : (tlM l)[j].lk = ⟨none, qAx a⟩ := by rw [hx]
     have hl1 : ((csM l)[j + 1]).lk = 2 := by rw [hck, hx]; simp [ckT]
     have hc1 : ((csM l)[j + 1]).c = 1 := by rw [hck]; rfl
     simp only [hts] at a3
     have hr := qBV a3 a4 hF
     obtain ⟨ad, lcap, he, _⟩ := id hr
     rw [he] at a0 hr
     obtain ⟨q0, q1, q2, t0, t1, t2⟩ := h3
     obtain ⟨b0, b1, b2, b3, b4⟩ := hrd W hF 1 q1
     rw [t1] at b3
     have hm := k2.to (t1 := qJC) b0 b1 (qBV b3 b4 hF)
     have hnk := qHT a
     have hnk2 := qMD a
     have := qLz gw mb g0 2 lv _ ps pb lb qJC (wd [97, 100, 100]) g0 ((j + 3) * 2) n (l.length + 6 - (j + 3)) ad lcap (f (j + 3)).2 0 ⟨1, 0, nmM⟩ (numK a) W W1.heap.size hF.size k1 (by omega) (by omega) (by omega) (by omega) (by omega) a0 a1 hgW hm rfl ⟨_, rfl⟩ rfl (by simp [isNm, nmN, wd, ByteArray.toList_eq]) (show qZ (qA0 (qDf.map tkOf)) from ph_of _ _ (by decide)) (by decide) hr rfl (show qZ (qA0 (mcrT.tail.map tkOf)) from ph_of _ _ (by decide)) hnk (by omega) (qGX a)
     refine this.mono ?_
     rintro r w' ⟨rfl, ⟨lv', v', q, m1, ⟨b5, m5⟩, b6, m6⟩, m2, m3⟩
     have hk := KT.ofM k1 m3
     refine ⟨by rw [hc1]; rfl, ⟨hF.fr m2, ?_⟩, hk, m2.size⟩
     rw [if_neg (by omega)]
     rw [addn_to] at m5
     refine ⟨lv', pb, lb, ps ++ [(v', (f (j + 3)).2)], ?_, k2.kt hk, by simp; omega, (k4.kt hk).snoc (kk := (((j + 4 : Nat) : Int), (tlM l)[j].lk)) (by rw [hps]; exact hks) a2 (.inr ⟨q, a, ha0, ha1, hlk, ⟨b5, m5⟩, b6, m6⟩)⟩
     have e9 : (0 : Int) + (qAp ((csM l).take (j + 1 + 1)) : Int) = 0 + (qAp ((csM l).take (j + 1)) : Int) + 1 + 1 := by rw [hls, hl1]; omega
     rw [e9]
     exact m1
theorem lrm_of {W : World} {base : Nat} {v : Value} {ps : List (Value × Int)} {ks : List (Int × Lk)} (h : W.ownsRow base 145 2 v ps.length (lnC ps)) (hl : ks.length = ps.length) (hp : ∀ i (h : i < ps.length), ∃ kk, ks[i]? = some kk /\ ps[i].2 = kk.1 /\ RDm W kk.2 ps[i].1) : LRm ks W v := by
 rcases id h.2 with ⟨hv, h0⟩ | ⟨g, cap, cur, rfl, hg, hgg, hle, hm, rest⟩
 ·exact ⟨none, 0, by rw [hv, hl, h0], by rw [hl, h0]; exact Nat.zero_le _, fun h => by omega⟩
 ·refine ⟨some ⟨g, 0, none⟩, cap, by rw [hl], by omega, fun _ => ⟨g, 0, rfl, qC hgg, fun i hi => ?_⟩⟩
  have hi' : i < ps.length := by omega
  obtain ⟨a, b⟩ := qKJ ps i hi'
  obtain ⟨kk, e1, e2, e3⟩ := hp i hi'
  have hsh : ∃ td tn tc, ps[i].1 = .slice td tn tc := by
   rcases e3 with h | ⟨q, a, _, _, _, h, _⟩
   ·exact h.shape
   ·exact h.shape
  obtain ⟨td, tn, tc, e4⟩ := hsh
  have hadd : ∀ j, (⟨g, 0, none⟩ : Addr).add j = ⟨g, 0 + j, none⟩ := fun j => by unfold Addr.add; split <;> simp_all
  have k0 := h.cells rfl _ _ a
  have k1 := h.cells rfl _ _ b
  rw [hadd] at k0 k1
  rw [e4] at k0 e3
  rw [e2] at k1
  refine ⟨td, tn, tc, k0, ?_, fun k hk => ?_⟩
  ·rw [qG3 ks i hi]
   have : ks[i] = kk := by
    have := List.getElem?_eq_getElem hi
    rw [e1] at this
    exact (Option.some.inj this).symm
   rw [this]
   exact k1
  ·rw [e1] at hk
   cases hk
   exact e3
theorem qLA (v : Value) (l : List Int) (hl : l.length <= 12) (hb : ∀ n, n ∈ l -> -100 <= n /\ n <= 100) (w : World) (h : LIn w v (srcN (qAa l))) :
  Calls Tryz.prog 43 #[v] w fun r w' => (∃ lv, r = .returned (.tuple #[lv, .slice none 0 0, .agg #[.int .i64 0, .int .i64 0]]) /\ LRm (qBI 4 l) w' lv) /\ Below w.heap.size w w' := by
 have hmm : ∀ w, (Instr.makeMap 132 none).run Tryz.prog w = .ok (.map (some w.heap.size)) (w.alloc (.map #[] 0)) := fun w => rfl
 have hts : ∀ x, x ∈ srcN (qAa l) -> x.toks.length <= 100000 := by
  intro x hx
  have hn : ∀ (L : List (List Sc.Tok)) (k : Nat) (x : Sc.Ln), x ∈ qA5 k L -> x.toks ∈ L := by
   intro L
   induction L with
   | nil => intro k x hx; cases hx
   | cons a L ih =>
     intro k x hx
     simp only [qA5, List.mem_cons] at hx
     rcases hx with rfl | hx
     ·simp
     ·exact List.mem_cons_of_mem _ (ih _ _ hx)
  have := hn _ _ _ hx
  obtain ⟨y, hy, e⟩ := List.mem_map.1 this
  rw [<- e]
  simp only [qAa, List.mem_append, List.mem_cons, List.not_mem_nil, or_false, List.mem_map] at hy
  rcases hy with (rfl | rfl | rfl | rfl) | ⟨n, hn, rfl⟩ | rfl | rfl
  ·simp [mcrT]
  ·simp [qDf]
  ·simp [qEK]
  ·simp [qBj]
  ·have := qII n
   simp [qCq]
   omega
  ·simp [tr1T]
  ·simp [tr0T]
 obtain ⟨ls, hls⟩ : ∃ ls, srcN (qAa l) = ls := ⟨_, rfl⟩
 rw [hls] at h hts
 have HE := Lib.hid hls
 clear hls
 obtain ⟨ad, cap, rfl, _⟩ := id h
 have HI := Lib.hid h
 have HTS := Lib.hid hts
 have HBD := Lib.hid hb
 clear h hts hb
 go_enter Tryz.func43, Tryz.ntmps43
 go_wp2_with fail
 have hB0 : Below w.heap.size w (((w.alloc (.cells #[.int .i64 0, .int .i64 0] 36)).alloc (.map #[] 0)).alloc (.cells #[.slice none 0 0, .slice none 0 0, .map (some (w.heap.size + 1)), .int .i64 0] 134)) := by go_grown
 have hb1 : (((w.alloc (.cells #[.int .i64 0, .int .i64 0] 36)).alloc (.map #[] 0)).alloc (.cells #[.slice none 0 0, .slice none 0 0, .map (some (w.heap.size + 1)), .int .i64 0] 134)).heap[w.heap.size + 1 + 1]? = some (.cells #[.slice none 0 0, .slice none 0 0, .map (some (w.heap.size + 1)), .int .i64 0] 134 (0, 0)) := qH _ _ (by go_size)
 have hb2 : (((w.alloc (.cells #[.int .i64 0, .int .i64 0] 36)).alloc (.map #[] 0)).alloc (.cells #[.slice none 0 0, .slice none 0 0, .map (some (w.heap.size + 1)), .int .i64 0] 134)).heap[w.heap.size + 1]? = some (.map #[] 0) := by
  rw [old2 _ _ (by go_size)]
  exact qH _ _ (by go_size)
 have hb3 : (((w.alloc (.cells #[.int .i64 0, .int .i64 0] 36)).alloc (.map #[] 0)).alloc (.cells #[.slice none 0 0, .slice none 0 0, .map (some (w.heap.size + 1)), .int .i64 0] 134)).heap[w.heap.size]? = some (.cells #[.int .i64 0, .int .i64 0] 36 (0, 0)) := by
  rw [old2 _ _ (by go_size), old2 _ _ (by go_size)]
  exact qH _ _ (by go_size)
 have hz0 : (((w.alloc (.cells #[.int .i64 0, .int .i64 0] 36)).alloc (.map #[] 0)).alloc (.cells #[.slice none 0 0, .slice none 0 0, .map (some (w.heap.size + 1)), .int .i64 0] 134)).heap.size = w.heap.size + 3 := by simp
 generalize (((w.alloc (.cells #[.int .i64 0, .int .i64 0] 36)).alloc (.map #[] 0)).alloc (.cells #[.slice none 0 0, .slice none 0 0, .map (some (w.heap.size + 1)), .int .i64 0] 134)) = W0 at *
 have hI0 : LIn W0 (.slice ad ls.length cap) ls := by
  obtain ⟨ad', cap', e, hh⟩ := HI.out
  refine ⟨ad', cap', e, fun h0 => ?_⟩
  obtain ⟨b, o, rfl, hlt, hc⟩ := hh h0
  refine ⟨b, o, rfl, by omega, fun i hi => ?_⟩
  obtain ⟨tv, a1, a2, a3⟩ := hc i hi
  exact ⟨tv, by rw [hB0.cell (by exact hlt)]; exact a1, by rw [hB0.cell (by exact hlt)]; exact a2, a3.below hB0 (Nat.le_refl _)⟩
 have hlen : ls.length = l.length + 6 := by rw [<- HE.out]; exact qHs l
 refine (qDh _ ls W0 hI0 (by omega) HTS.out).mono ?_
 rintro e W1 ⟨rfl, ⟨f, hf⟩, hB1⟩
 have hz1 : W0.heap.size < W1.heap.size := hf.1.lt
 rw [hlen] at hf ⊢
 rw [<- HE.out] at hf
 have hW1 : WM W1 W1.heap.size (w.heap.size + 1 + 1) (.slice none 0 0) (w.heap.size + 1) #[] 0 0 [] := ⟨by rw [hB1.block _ (by omega)]; exact hb1, World.ownsRow_nil W1 _ _ _, by rw [hB1.block _ (by omega)]; exact hb2, by omega⟩
 have HD := Lib.hid (mac_do (w.heap.size + 1 + 1) (w.heap.size + 1) W0.heap.size l hl HBD.out f W0 W1 rfl hf (by omega) (by omega) hW1)
 have HAft : Hid (∀ W2 off, StM (w.heap.size + 1 + 1) (w.heap.size + 1) W0.heap.size l W1 off (csM l).length W2 ->
   W2.heap[w.heap.size]? = some (.cells #[.int .i64 0, .int .i64 0] 36 (0, 0)) /\ Below w.heap.size w W2 /\ ∃ la ln lc, LRm (qBI 4 l) W2 (.slice la ln lc) /\ W2.heap[w.heap.size + 1 + 1]? = some (.cells #[.slice la ln lc, .slice none 0 0, .map (some (w.heap.size + 1)), .int .i64 off] 134 (0, 0))) := fun W2 off hw => by
  obtain ⟨hF, hw⟩ := hw
  rw [if_neg (by rw [qD8]; omega)] at hw
  obtain ⟨lv, pb, lb, ps, k1, k2, k3, k4⟩ := hw
  refine ⟨?_, ?_, ?_⟩
  ·rw [hF.block _ (by omega) (by omega) (by omega), hB1.block _ (by omega)]
   exact hb3
  ·have h01 : Below w.heap.size w W1 := hB0.trans (hB1.mono (by omega))
   exact ⟨hF.os.trans h01.os, hF.tape.trans h01.tape, hF.output.trans h01.output, Nat.le_trans h01.size hF.size, fun i hi => (hF.block i (by omega) (by omega) (by omega)).trans (h01.block i hi)⟩
  ·obtain ⟨la, lc, e⟩ := qG k1.row
   subst e
   refine ⟨la, _, lc, lrm_of k1.row (by rw [qDz, k3, qD8]; omega) fun i hi => ?_, k1.box⟩
   obtain ⟨kk, e1, e2, e3⟩ := k4 i hi
   exact ⟨kk, e1, e2, e3.to hF⟩
 clear hf hB1 hW1 hb1 hb2 hb3 hI0 hB0 HTS HI hz0 hz1 HBD hlen HE
 go_wp2_with (go_at_call 68; refine HD.out.mono ?_; rintro e W2 ⟨rfl, hw2⟩; obtain ⟨x0, hB2, la, ln, lc, hLR, hbx⟩ := HAft.out W2 _ hw2; obtain ⟨⟨u0, u1⟩, f0, f1⟩ := qo x0; have hz2 := qC hbx; have d0 : W2.cell? ⟨w.heap.size + 1 + 1, 0, none⟩ = some (.slice la ln lc) := qB hbx rfl; have d1 : W2.cell? ⟨w.heap.size + 1 + 1, 1, none⟩ = some (.slice none 0 0) := qB hbx rfl; have HLR := Lib.hid hLR; have HB2 := Lib.hid hB2; have X0 := Lib.hid x0; clear hLR hbx hw2 hB2 x0)
 have hzr : w.heap.size < W2.heap.size := by omega
 go_region
 all_goals
  go_wp2
  refine bodyPost_ret (v := .tuple #[.slice la ln lc, .slice none 0 0, .agg #[.int .i64 0, .int .i64 0]]) (by simp [results, Tryz.results43, go_sem, World.cell?_alloc_lt, hzr, u0, u1]) rfl ⟨⟨_, rfl, ?_⟩, ?_⟩
  ·exact HLR.out.go (((qX X0.out rfl).trans (qX (qAj X0.out rfl) rfl)).alloc (by simp) _).drew
  ·exact (((HB2.out.setCell (Nat.le_refl _) _).setCell (Nat.le_refl _) _).alloc (by simp; omega) _).drew
theorem qIc (v : Value) (l : List Int) (hl : l.length <= 12) (h : ∀ n, n ∈ l -> -100 <= n /\ n <= 100) (w : World) (hA : qAi w) (hv : Sc.qBL w v (srcB (qAa l))) : qCy v (qCT l) w :=
 unit_mac v l hl h w hA hv fun v W _ hlin => qLA v l hl h W hlin
def macH : List UInt8 := srcB [(mcrL, mcrT), (addnL, qDf), (endmL, qEK), (qCj, qBj)]
def qBU (l : List Int) : List UInt8 := srcB (l.map fun n => (qEJ n, qCq n))
def qCu (l : List Int) : List UInt8 := srcB (l.map fun n => (qFy n, qD3 n))
def endB : List UInt8 := srcB [(tr1L, tr1T), (tr0L, tr0T)]
theorem macS_eq (l : List Int) : srcB (qAa l) = (macH ++ qBU l) ++ endB := by
 unfold qAa macH qBU endB
 rw [qBY, qBY, List.append_assoc]
theorem adsS_eq (l : List Int) : srcB (qBw l) = (srcB [(qCj, qBj)] ++ qCu l) ++ endB := by
 unfold qBw qCu endB
 rw [<- List.singleton_append, qBY, qBY, List.append_assoc]
theorem qG4 (l : List Int) (x : Int) : qBU (l ++ [x]) = qBU l ++ (qEJ x ++ [10]) := by simp [qBU, srcB]
theorem qJZ (l : List Int) (x : Int) : qCu (l ++ [x]) = qCu l ++ (qFy x ++ [10]) := by simp [qCu, srcB]
theorem qJU (l : List Int) (h : ∀ n, n ∈ l -> -100 <= n /\ n <= 100) : (qBU l).length <= 27 * l.length := by
 have := qCH [109, 111, 114, 101, 32] [] qCq l h
 have e : (fun n : Int => (qEJ n, qCq n)) = fun n => ([109, 111, 114, 101, 32] ++ (Lib.itoa n ++ []), qCq n) := by
  funext n
  simp [qEJ]
 unfold qBU
 rw [e]
 simpa using this
theorem qKa (l : List Int) (h : ∀ n, n ∈ l -> -100 <= n /\ n <= 100) : (qCu l).length <= 30 * l.length := by
 have := qCH [97, 100, 100, 32, 35] [44, 114, 48] qD3 l h
 unfold qCu qFy
 simpa using this
theorem qJ8 : ∀ l : List Int, (∀ x, x ∈ l -> -100 <= x /\ x <= 100) -> -100 * (l.length : Int) <= Si.qA4 l /\ Si.qA4 l <= 100 * l.length
 | [], _ => by simp [Si.qA4]
 | a :: l, h => by
   have ih := qJ8 l fun x hx => h x (by simp [hx])
   have := h a (by simp)
   simp only [Si.qA4, List.length_cons]
   omega
theorem macH_eq : (⟨#[46, 109, 97, 99, 114, 111, 32, 109, 111, 114, 101, 32, 110, 10, 97, 100, 100, 32, 35, 110, 44, 114, 48, 10, 46, 101, 110, 100, 109, 10, 109, 111, 118, 32, 35, 48, 44, 114, 48, 10]⟩ : ByteArray) = ⟨(macH ++ qBU []).toArray⟩ := rfl
theorem adsH_eq : (⟨#[109, 111, 118, 32, 35, 48, 44, 114, 48, 10]⟩ : ByteArray) = ⟨(srcB [(qCj, qBj)] ++ qCu []).toArray⟩ := rfl
theorem endB_eq : (⟨#[116, 114, 97, 112, 97, 32, 35, 49, 10, 116, 114, 97, 112, 97, 32, 35, 48, 10]⟩ : ByteArray) = ⟨endB.toArray⟩ := rfl
theorem qL7 (ds : List UInt8) : (⟨ds.toArray⟩ : ByteArray) ++ ⟨#[116, 114, 97, 112, 97, 32, 35, 49, 10, 116, 114, 97, 112, 97, 32, 35, 48, 10]⟩ = ⟨(ds ++ endB).toArray⟩ := by
 rw [endB_eq]
 exact ByteArray.ext (by simp [ByteArray.data_append])
theorem qK2 (a : Option Addr) (cap : Nat) (l : List Int) (w : World) (hA : qAi w) (hl : IRd w a l) :
  Calls Tryz.prog 3 #[.slice a l.length cap] w fun e w' => e = .returned (.bool true) /\ Below w.heap.size w w' := by
 have HA := Lib.hid hA
 have HL := Lib.hid hl
 have hln := hl.2.1
 clear hA hl
 have HAL := Lib.hid (paliveN w HA.out)
 by_cases h12 : (l.length : Int) > 12
 ·clear HL
  go_enter Tryz.func3, Tryz.ntmps3
  go_wp2_with (first | (go_at_call 4; refine HAL.out.mono ?_; rintro e w1 ⟨rfl, hb1⟩; have HB1 := Lib.hid hb1; clear hb1))
  go_ret
  exact ⟨rfl, HB1.out⟩
 have g1 : ¬ (12 : Int) < l.length := h12
 have h1 : l.length <= 12 := by omega
 clear h12
 go_enter Tryz.func3, Tryz.ntmps3
 go_wp2_with (first | (go_at_call 4; refine HAL.out.mono ?_; rintro e w1 ⟨rfl, hb1⟩; have HB1 := Lib.hid hb1; clear hb1))
 go_loopw [3, 4, 5, 20] (fun av bv sv iv wr => ∃ k : Nat, k <= l.length /\ iv = .int .i64 k /\ sv = .int .i64 (Si.qA4 (l.take k)) /\ av = .string ⟨(macH ++ qBU (l.take k)).toArray⟩ /\ bv = .string ⟨(srcB [(qCj, qBj)] ++ qCu (l.take k)).toArray⟩ /\ Hid (∀ n, n ∈ l.take k -> -100 <= n /\ n <= 100) /\ Hid (Below w.heap.size w wr)) (fun _ _ _ iv _ => l.length - (intOf iv).toNat)
 case atStart => exact ⟨0, Nat.zero_le _, rfl, rfl, by rw [macH_eq]; rfl, by rw [adsH_eq]; rfl, by unfold Hid; simp, HB1⟩
 case round =>
  obtain ⟨k, hk, rfl, rfl, rfl, rfl, HR, HB⟩ := hrel
  have hcl := qJU _ HR.out
  have hal := qKa _ HR.out
  have hsb := qJ8 _ HR.out
  rw [List.length_take] at hcl hal hsb
  have hmh : macH.length = 40 := by decide +kernel
  have hah : (srcB [(qCj, qBj)]).length = 10 := by decide +kernel
  have hdl : (macH ++ qBU (l.take k)).length <= 1000 := by rw [List.length_append]; omega
  have hel : (srcB [(qCj, qBj)] ++ qCu (l.take k)).length <= 1000 := by rw [List.length_append]; omega
  clear hcl hal hmh hah
  by_cases hlt : k < l.length
  ·have hk' : (k : Int) < l.length := by omega
   obtain ⟨hrg, _, hcl⟩ := id HL.out
   obtain ⟨b, o, rfl, hbl, hcell⟩ := hcl (by omega)
   have r0 := hcell k hlt
   obtain ⟨hn0, hn1⟩ := hrg l[k] (List.getElem_mem _)
   obtain ⟨n, hn⟩ : ∃ n, l[k] = n := ⟨_, rfl⟩
   rw [hn] at r0 hn0 hn1
   replace r0 := (HB.out.cell (by show b < w.heap.size; exact hbl)).trans r0
   have hbr : b < wr.heap.size := Nat.lt_of_lt_of_le hbl HB.out.size
   clear hcell hcl hrg
   by_cases q0 : n < -100
   ·go_wp2_with fail
    go_ret
    exact ⟨rfl, HB.out⟩
   ·by_cases q1 : 100 < n
    ·go_wp2_with fail
     go_ret
     exact ⟨rfl, HB.out⟩
    ·have HT : Hid (macH ++ qBU (l.take (k + 1)) = (macH ++ qBU (l.take k)) ++ (qEJ n ++ [10])) := by
      unfold Hid
      rw [List.take_succ_eq_append_getElem hlt, hn, qG4, List.append_assoc]
     have HT2 : Hid (srcB [(qCj, qBj)] ++ qCu (l.take (k + 1)) = (srcB [(qCj, qBj)] ++ qCu (l.take k)) ++ (qFy n ++ [10])) := by
      unfold Hid
      rw [List.take_succ_eq_append_getElem hlt, hn, qJZ, List.append_assoc]
     have HU : Hid (Si.qA4 (l.take (k + 1)) = Si.qA4 (l.take k) + n) := by
      unfold Hid
      rw [List.take_succ_eq_append_getElem hlt, hn, Si.qH4]
     have HR2 : Hid (∀ n, n ∈ l.take (k + 1) -> -100 <= n /\ n <= 100) := by
      unfold Hid
      rw [List.take_succ_eq_append_getElem hlt, hn]
      intro m hm
      rcases List.mem_append.1 hm with hm | hm
      ·exact HR.out m hm
      ·obtain rfl := List.mem_singleton.1 hm
       omega
     have HIT := Lib.hid fun W (hb : Below w.heap.size w W) => itoa_of n hn0 hn1 W (HA.out.gl.below hb HA.out.gl.sz)
     have hil2 := Lib.itoa_length_le n hn0 hn1
     have HIE : Hid (qEJ n = [109, 111, 114, 101, 32] ++ Lib.itoa n) := rfl
     have HIF : Hid (qFy n = [97, 100, 100, 32, 35] ++ (Lib.itoa n ++ [44, 114, 48])) := rfl
     have hs0 : -1200 <= Si.qA4 (l.take k) := by omega
     have hs1 : Si.qA4 (l.take k) <= 1200 := by omega
     clear hsb
     generalize Lib.itoa n = it at *
     generalize macH ++ qBU (l.take k) = ds at *
     generalize srcB [(qCj, qBj)] ++ qCu (l.take k) = es at *
     generalize Si.qA4 (l.take k) = S at *
     go_wp2_with (first | (go_at_call 5; first | (refine (HIT.out _ HB2.out).mono ?_; rintro e w3 ⟨rfl, hb3⟩; have HB3 := Lib.hid (HB2.out.trans (hb3.mono HB2.out.size)); clear hb3) | (refine (HIT.out _ HB.out).mono ?_; rintro e w2 ⟨rfl, hb2⟩; have HB2 := Lib.hid (HB.out.trans (hb2.mono HB.out.size)); clear hb2)))
     refine ⟨⟨k + 1, by omega, by go_num, ?_, ?_, ?_, HR2, HB3⟩, by simp [intOf]; omega⟩
     ·rw [HU.out]
     ·rw [HT.out, HIE.out]
      exact congrArg Value.string (ByteArray.ext (by simp [ByteArray.data_append]))
     ·rw [HT2.out, HIF.out]
      exact congrArg Value.string (ByteArray.ext (by simp [ByteArray.data_append]))
  ·obtain rfl : k = l.length := by omega
   have hk' : ¬ ((l.length : Nat) : Int) < l.length := by omega
   rw [List.take_length] at *
   have HTO : Hid (∀ W lb lc, Below w.heap.size w W -> W.heap[lb]? = some (.cells #[.string ⟨((macH ++ qBU l) ++ endB).toArray⟩] 9 (0, 0)) -> Calls Tryz.prog 6 #[.int .i64 0, .slice (some ⟨lb, 0, none⟩) 1 lc] W fun e w' => (∃ ta tc, e = .returned (.tuple #[.slice ta 1 tc, .int .i64 0]) /\ Si.TRd w' ta [Si.qA4 l]) /\ Below W.heap.size W w') := fun W lb lc hW hs => by
    rw [<- macS_eq] at hs
    exact qFD (srcB (qAa l)) (qCT l) 0 _ _ _ lb lc W (qHn _ l h1 HR.out W (fun X v hX hv => qIc v l h1 HR.out X ((HA.out.next hW).next hX) hv) (by have := qHj l h1 HR.out; omega)) (HA.out.next hW).isa hs
   have HTP : Hid (∀ W lb lc, Below w.heap.size w W -> W.heap[lb]? = some (.cells #[.string ⟨((srcB [(qCj, qBj)] ++ qCu l) ++ endB).toArray⟩] 9 (0, 0)) -> Calls Tryz.prog 6 #[.int .i64 0, .slice (some ⟨lb, 0, none⟩) 1 lc] W fun e w' => (∃ ta tc, e = .returned (.tuple #[.slice ta 1 tc, .int .i64 0]) /\ Si.TRd w' ta [Si.qA4 l]) /\ Below W.heap.size W w') := fun W lb lc hW hs => by
    rw [<- adsS_eq] at hs
    exact qFD (srcB (qBw l)) (qCT l) 0 _ _ _ lb lc W (qHn _ l h1 HR.out W (fun X v hX hv => qJ2 v l h1 HR.out X ((HA.out.next hW).next hX) hv) (by have := qH0 l h1 HR.out; omega)) (HA.out.next hW).isa hs
   clear hsb
   generalize macH ++ qBU l = ds at *
   generalize srcB [(qCj, qBj)] ++ qCu l = es at *
   generalize Si.qA4 l = S at *
   go_wp2_with fail
   refine (HTO.out _ _ _ (HB.out.trans ((qE _ _).mono HB.out.size)) (by rw [<- qL7]; exact qH _ _ rfl)).mono ?_
   rintro e w4 ⟨⟨ta, tc, rfl, htr⟩, hb4⟩
   obtain ⟨bb, off, rfl, hlt2, hc⟩ := htr (by simp)
   have c0 : w4.cell? ⟨bb, off, none⟩ = some (.int .i64 S) := hc 0 (by simp)
   have HB4 := Lib.hid ((HB.out.trans ((qE wr _).mono HB.out.size)).trans (hb4.mono (Nat.le_trans HB.out.size (by simp))))
   clear hb4 hc HTO htr
   go_wp2_with fail
   refine (HTP.out _ _ _ (HB4.out.trans ((qE _ _).mono HB4.out.size)) (by rw [<- qL7]; exact qH _ _ rfl)).mono ?_
   rintro e w5 ⟨⟨tb, td, rfl, htr⟩, hb5⟩
   obtain ⟨b2, off2, rfl, hlt3, hc⟩ := htr (by simp)
   have c1 : w5.cell? ⟨b2, off2, none⟩ = some (.int .i64 S) := hc 0 (by simp)
   have hb45 := (qE w4 _).trans (hb5.mono (by simp))
   have c2 : w5.cell? ⟨bb, off, none⟩ = some (.int .i64 S) := (hb45.cell (by exact hlt2)).trans c0
   have HB5 := Lib.hid (HB4.out.trans (hb45.mono HB4.out.size))
   clear hb5 hb45 hc HTP htr c0
   go_wp2_with fail
   go_ret
   exact ⟨by simp, HB5.out⟩
end Go.Proofs.YtgjmbjahgcndnaaGreatDoor
