import Derived.Test.YtfmljailbebfgaaGreatDoorPut49
set_option maxHeartbeats 4000000
set_option maxRecDepth 100000
namespace Go.Proofs.YtfmljailbebfgaaGreatDoor
open Go.RowKit
theorem qE8 {ts : List Sc.Tok} {s : List UInt8} (h : headS (ts.map tkOf) = ⟨s.toArray⟩) (hs : ∀ q, q ∈ heads -> (s == q) = false) : PlainHead (headS (ts.map tkOf)) := by
 intro q hq
 rw [h, ByteArray.toList_eq]
 simpa using hs q hq
theorem ph_nop : PlainHead (headS (nopT.map tkOf)) := qE8 (s := [110, 111, 112]) rfl (by decide)
theorem rep_atom (m : Nat) (h : m < 1000) : AtomK 2 (m : Int) ⟨#[]⟩ ⟨#[]⟩ m := .inl ⟨rfl, rfl, by unfold wrap32; omega⟩
section
variable (w W : World) (gu mb gp mi : Nat) (v : Value)
end
def IOk (labs : List (List UInt8 × Nat)) (i : It) : Prop :=
 Laid1 i /\ (1 <= i.align /\ i.align <= 16) /\ i.upTo = 1 /\
 match i.gen with
 | .fill => False
 | .num nm add => (i.size = 1 \/ i.size = 2 \/ i.size = 4) /\ nm.length <= maxLen /\ -100000000000 <= add /\ add <= 100000000000
 | .plain _ _ _ _ => True
 | .lead op _ _ _ q => (i.size = 2 \/ i.size = 6) /\ (op = 17 \/ op = 18) /\ ∃ nm add k, q = .val nm add /\ nm ≠ [] /\ nm.length <= maxLen /\ -100000000000 <= add /\ add <= 100000000000 /\ labelAt nm labs = some k
theorem IOk.good {labs : List (List UInt8 × Nat)} {i : It} (h : IOk labs i) : Laid1 i /\ GoodB labs i := by
 refine ⟨h.1, ?_⟩
 have h4 := h.2.2.2
 unfold GoodB
 cases hg : i.gen with
 | fill => trivial
 | num nm m => trivial
 | plain op a b c => trivial
 | lead op a b c q =>
   rw [hg] at h4
   exact fun _ => ⟨h4.1, h4.2.2⟩
theorem IOk.ends {labs : List (List UInt8 × Nat)} {i : It} (h : IOk labs i) : FarEnd i := by
 refine ⟨h.1, h.2.1, h.2.2.1, ?_⟩
 have h4 := h.2.2.2
 cases hg : i.gen with
 | fill => rw [hg] at h4; exact h4
 | num nm m => rw [hg] at h4; exact h4
 | plain op a b c => trivial
 | lead op a b c q =>
   rw [hg] at h4
   obtain ⟨h1, h2, nm, add, k, e, _, h3, h5, h6, _⟩ := h4
   refine ⟨?_, nm, add, e, h3, h5, h6⟩
   rcases h1 with h1 | h1
   ·exact .inl h1
   ·exact .inr ⟨h1, h2⟩
theorem IOk.long {labs : List (List UInt8 × Nat)} (u : Un) (ps : List Int) : ∀ (l : List It) (k : Nat), (∀ i, i ∈ l -> IOk labs i) -> ∀ i, i ∈ (longU u ps k l).1 -> IOk labs i
 | [], k, h, i, hi => by simp [longU] at hi
 | x :: l, k, h, i, hi => by
   rw [qAE, List.mem_cons] at hi
   rcases hi with rfl | hi
   ·have hx := h x (by simp)
    unfold long1
    split
    ·next hm =>
     obtain ⟨h1, h2, h3, h4⟩ := hx
     refine ⟨⟨by show (0 : Int) <= 6; decide, by show (6 : Int) <= 6; decide, h1.2.2⟩, h2, h3, ?_⟩
     unfold mustU farU at hm
     cases hg : x.gen with
     | fill => rw [hg] at hm; simp at hm
     | num nm m => rw [hg] at hm; simp at hm
     | plain op a b c => trivial
     | lead op a b c q =>
       rw [hg] at h4
       exact ⟨.inr rfl, h4.2⟩
    ·exact hx
   ·exact IOk.long u ps l (k + 1) (fun j hj => h j (by simp [hj])) i hi
theorem qHq (its : List It) : (tellU 0 its).getLastD 0 = (tellU 0 its).getD its.length 0 := qFe (k := its.length) (qBP _ _) rfl
theorem qF9 {labs : List (List UInt8 × Nat)} {its : List It} {firsts : Nat -> Nat} {ob : Ob} (h : unitU 2 ⟨labs, its, firsts⟩ = some (.ok ob)) :
  (tellU 0 its).getD its.length 0 <= 8000 /\ (((longU ⟨labs, its, firsts⟩ (tellU 0 its) 0 its).2 = false /\ writeU ⟨labs, its, firsts⟩ (tellU 0 its) 0 [] [] its = .ok (ob.code, ob.rels) /\ ob.syms = symsU ⟨labs, its, firsts⟩ (tellU 0 its)) \/
   ∃ its2, longU ⟨labs, its, firsts⟩ (tellU 0 its) 0 its = (its2, true) /\ (tellU 0 its2).getD its2.length 0 <= 8000 /\ (longU ⟨labs, its2, firsts⟩ (tellU 0 its2) 0 its2).2 = false /\ writeU ⟨labs, its2, firsts⟩ (tellU 0 its2) 0 [] [] its2 = .ok (ob.code, ob.rels) /\ ob.syms = symsU ⟨labs, its2, firsts⟩ (tellU 0 its2)) := by
 have fin : ∀ (v : Un) (ps : List Int), (match writeU v ps 0 [] [] v.items with | .error e => some (.error e) | .ok (code, rs) => some (.ok (⟨code, symsU v ps, rs⟩ : Ob)) : Option (Except (Int × Int) Ob)) = some (.ok ob) -> writeU v ps 0 [] [] v.items = .ok (ob.code, ob.rels) /\ ob.syms = symsU v ps := by
  intro v ps h
  split at h
  ·exact absurd h (by simp)
  ·next code rs hw =>
   injection h with h
   injection h with h
   subst h
   exact ⟨hw, rfl⟩
 unfold unitU layU at h
 simp only at h
 by_cases h1 : (8000 : Int) < (tellU 0 its).getLastD 0
 ·rw [if_pos h1] at h; exact absurd h (by simp)
 ·rw [if_neg h1] at h
  rw [qHq] at h1
  refine ⟨by omega, ?_⟩
  obtain ⟨its2, b, hl⟩ : ∃ its2 b, longU ⟨labs, its, firsts⟩ (tellU 0 its) 0 its = (its2, b) := ⟨_, _, rfl⟩
  rw [hl] at h ⊢
  cases b
  ·simp only [Bool.false_eq_true, if_false] at h
   exact .inl ⟨rfl, fin _ _ h⟩
  ·simp only [if_true, layU] at h
   by_cases h2 : (8000 : Int) < (tellU 0 its2).getLastD 0
   ·rw [if_pos h2] at h; exact absurd h (by simp)
   ·rw [if_neg h2] at h
    rw [qHq] at h2
    refine .inr ⟨its2, rfl, by omega, ?_⟩
    cases hb : (longU ⟨labs, its2, firsts⟩ (tellU 0 its2) 0 its2).2
    ·rw [hb] at h
     simp only [Bool.false_eq_true, if_false] at h
     exact ⟨rfl, fin _ _ h⟩
    ·rw [hb] at h
     simp at h
structure Fin (labs : List (List UInt8 × Nat)) (its : List It) (ob : Ob) : Prop where
 hx : ∀ i, i ∈ its -> IOk labs i
 pos : 0 < its.length
 n : its.length <= 3000
 lbk : ∀ nm k, labelAt nm labs = some k -> k <= its.length
 lbs : ∀ j (h : j < labs.length), labelAt labs[j].1 labs = some labs[j].2 /\ labs[j].1.length <= maxLen
 ll : labs.length <= 100000
 un : unitU 2 ⟨labs, its, fun _ => 0⟩ = some (.ok ob)
 cl : ob.code.length <= 100000 /\ ob.rels.length <= 100000
def Rdy (w W' : World) (gu : Nat) (labs : List (List UInt8 × Nat)) (ob : Ob) : Prop :=
 ∃ w1 gp mb n nv pp ln its, Bx w w1 /\ LY w1 W' gu gp mb n nv pp (.slice none 0 0) ln labs its /\ PlR W' gp n (n + 1) (tellU 0 its) /\ w1.ownsRow (gu + 1) 9 1 nv labs.length (nameC labs) /\ (∀ i, i ∈ its -> IOk labs i) /\ n <= 3000 /\ (∀ nm k, labelAt nm labs = some k -> k <= n) /\ writeU ⟨labs, its, fun _ => 0⟩ (tellU 0 its) 0 [] [] its = .ok (ob.code, ob.rels) /\ ob.syms = symsU ⟨labs, its, fun _ => 0⟩ (tellU 0 its)
theorem lay_fin (w W : World) (gu mb gp mi : Nat) (ln : Int) (labs : List (List UInt8 × Nat)) (its : List It) (ob : Ob) (hA : AllLaid w) (hge : w.heap.size + 2 <= gu) (hn : AlR w W gu mb gp mi ln labs its false) (hfin : Fin labs its ob) :
  Calls Tryz.prog 75 #[.pointer (some ⟨gu, 0, none⟩)] W fun r w' => r = .returned (.int .i64 0) /\ Rdy w w' gu labs ob := by
 have hsz := hA.isa.sz
 obtain ⟨nv, hu, hnv⟩ := hn.ur
 have hla := hA.isa.below hn.bx.bel hA.isa.sz
 have hgood : ∀ i, i ∈ its -> Laid1 i /\ GoodB labs i := fun i hi => (hfin.hx i hi).good
 obtain ⟨h1, h2⟩ := qF9 hfin.un
 rcases h2 with ⟨hl, hw, hs⟩ | ⟨its2, hl, h3, h4, hw, hs⟩
 ·refine (lay_one W gu mb nv _ _ none 0 0 ln labs (fun _ => 0) its hu hn.lb hla (by omega) hgood hfin.pos hfin.n hfin.lbk h1 hl).mono ?_
  rintro r W' ⟨rfl, gp', _, hy, hp⟩
  exact ⟨rfl, W, gp', mb, _, nv, _, ln, _, hn.bx, hy, hp, hnv, hfin.hx, hfin.n, hfin.lbk, hw, hs⟩
 ·have hx2 : ∀ i, i ∈ its2 -> IOk labs i := fun i hi => IOk.long ⟨labs, its, fun _ => 0⟩ (tellU 0 its) its 0 hfin.hx i (by rw [hl]; exact hi)
  have hlen2 : its2.length = its.length := by have := qs ⟨labs, its, fun _ => 0⟩ (tellU 0 its) its 0; rw [hl] at this; exact this
  rw [hlen2] at h3
  refine (lay_two W gu mb nv _ _ none 0 0 ln labs (fun _ => 0) its its2 hu hn.lb hla (by omega) hgood (fun i hi => (hx2 i hi).good) hfin.pos hfin.n hfin.lbk h1 hl h3 h4).mono ?_
  rintro r W' ⟨rfl, gp', _, hy, hp⟩
  exact ⟨rfl, W, gp', mb, _, nv, _, ln, _, hn.bx, hy, hp, hnv, hx2, hfin.n, hfin.lbk, hw, hs⟩
theorem qIw (w W' : World) (gu : Nat) (labs : List (List UInt8 × Nat)) (its : List It) (ob : Ob) (hA : AllLaid w) (hge : w.heap.size + 2 <= gu) (hr : Rdy w W' gu labs ob) (hfin : Fin labs its ob) :
  Calls Tryz.prog 76 #[.pointer (some ⟨gu, 0, none⟩)] W' fun r w' => ∃ ca cl cc sa sl sc qa ql qc, r = .returned (.tuple #[.agg #[.slice ca cl cc, .slice sa sl sc, .slice qa ql qc], .agg #[.int .i64 0, .int .i64 0]]) /\ ObjAt w' (.slice ca cl cc) (.slice sa sl sc) (.slice qa ql qc) ob /\ Bx w w' := by
 have hsz := hA.isa.sz
 obtain ⟨w1, gp', mb', n, nv, pp, ln, its, hbx, hy, hp, hnv, hx, hn, hlk, hw, hs⟩ := hr
 have := qIl (firsts := fun _ => 0) hbx hge hy hp hnv (by omega) hn (fun i hi => (hx i hi).ends) hw hfin.cl hlk hfin.lbs hfin.ll
 refine this.mono ?_
 rintro r w' ⟨ca, cl, cc, sa, sl, sc, qa, ql, qc, rfl, ho, hb⟩
 rw [<- hs] at ho
 exact ⟨ca, cl, cc, sa, sl, sc, qa, ql, qc, rfl, ho, hb⟩
end Go.Proofs.YtfmljailbebfgaaGreatDoor
namespace Go.Proofs.YtfmljailbebfgaaGreatDoor
open Go.RowKit Go.Maps Go.MapKept
structure Lk where
 lab : Option (List UInt8)
 ins : Ins
def Lk.toks (k : Lk) : List Tk := match k.lab with
 | none => k.ins.toks
 | some nm => wd nm :: sg 58 :: k.ins.toks
def Lk.labs (k : Lk) (c : Nat) : List (List UInt8 × Nat) := match k.lab with
 | none => []
 | some nm => [(nm, c)]
def Lk.Ok (k : Lk) : Prop := k.ins.Ok /\ ∀ nm, k.lab = some nm -> nm.length <= maxLen /\ regU 1 nm < 0 /\ Xp.nameR nm = true
section
variable (w W : World) (gu mb gp mi : Nat) (v : Value) (ln : Int) (labs : List (List UInt8 × Nat)) (its : List It)
theorem read_lk (k : Lk) (hk : k.Ok) (hA : AllLaid w) (hge : w.heap.size + 2 <= gu /\ w.heap.size + 2 <= mb /\ w.heap.size + 2 <= gp /\ w.heap.size + 2 <= mi) (hlt : mb < gu /\ gp < gu /\ mi < gu) (hne : mi ≠ mb) (h : AlR w W gu mb gp mi ln labs its false) (hits : its.length <= 100000) (hll : labs.length <= 100000) (hfree : ∀ nm, k.lab = some nm -> labelAt nm labs = none) (hv : PReads w v k.toks) :
  Calls Tryz.prog 73 #[.pointer (some ⟨gu, 0, none⟩), v] W fun r w' => r = .returned (.int .i64 0) /\ AlR w w' gu mb gp mi ln (labs ++ k.labs its.length) (its ++ [k.ins.it ln]) false := by
 obtain ⟨g1, g2, g3, g4⟩ := hge
 obtain ⟨hio, hlo⟩ := hk
 refine read_gen gu v 0 ⟨k.ins.name.toArray⟩ (joinK k.ins.ops) (k.ins.ops.map OpK.opd) w W (fun X => AlR w X gu mb gp mi ln (labs ++ k.labs its.length) its false) _ ?_ (fun A B h1 h2 => h1.go h2) (fun X hX => hX.bx.bel) ?_ ?_ (by obtain ⟨a, b, e, _⟩ := hv; exact ⟨_, _, _, e⟩)
 ·cases hl : k.lab with
  | none =>
    have e1 : k.toks = k.ins.toks := by simp [Lk.toks, hl]
    have e2 : k.labs its.length = [] := by simp [Lk.labs, hl]
    rw [e1] at hv
    rw [e2, List.append_nil]
    refine (qEz gu v _ W (hv.below h.bx.bel (Nat.le_refl _)) hio.lab).mono ?_
    rintro r w' ⟨rfl, hb⟩
    exact ⟨v, rfl, hv, h.go hb⟩
  | some nm =>
    have e1 : k.toks = wd nm :: sg 58 :: k.ins.toks := by simp [Lk.toks, hl]
    have e2 : k.labs its.length = [(nm, its.length)] := by simp [Lk.labs, hl]
    rw [e1] at hv
    rw [e2]
    obtain ⟨n1, n2, n3⟩ := hlo nm hl
    have hp := h.po
    simp only [Bool.false_eq_true, if_false] at hp
    obtain ⟨nv, hu, hN⟩ := h.ur
    have hown : ∀ i, i <= gu -> some i ≠ nv.ownBlock := fun i hi e => by
     have := (hN.lt i e.symm).1
     omega
    obtain ⟨es0, ck0, hmb, _⟩ : ∃ es ck, W.heap[mb]? = some (.map es ck) /\ True := by obtain ⟨D, ⟨es, ck, hb, _⟩, _⟩ := h.lb; exact ⟨es, ck, hb, trivial⟩
    refine (qGh gu (gu + 1) mb ln nv _ _ _ its labs nm 0 0 k.ins.toks v w W h.bx.bel (by omega) (by omega) hv hio.lab hu hN h.lb (hfree nm hl) n1 (hA.gl.below h.bx.bel hA.gl.sz) n2 n3 hits hll).mono ?_
    rintro r w' ⟨v', nv', rfl, hv', hB, hu', hn', hl', hc⟩
    refine ⟨v', rfl, hv', ⟨⟨hB, ?_, ?_⟩, ⟨nv', hu', ?_⟩, hl', ?_⟩⟩
    ·rw [hc.block _ (qC h.bx.x0) (by omega) (by omega) (hown _ (by omega))]; exact h.bx.x0
    ·rw [hc.block _ (qC h.bx.x1) (by omega) (by omega) (hown _ (by omega))]; exact h.bx.x1
    ·rw [List.length_append]
     exact hn'
    ·simp only [Bool.false_eq_true, if_false]
     have hpm : gp ≠ mb := by rintro rfl; rw [hp.1] at hmb; cases hmb
     exact ⟨by rw [hc.block _ (qC hp.1) (by omega) hpm (hown _ (by omega))]; exact hp.1, by rw [hc.block _ (qC hp.2) (by omega) hne (hown _ (by omega))]; exact hp.2⟩
 ·intro X v2 hX hv2
  obtain ⟨nv, hu, _⟩ := hX.ur
  exact ops_any k.ins.ops hio.ops hio.n gu v2 X (KL.below hA.ex hX.bx.bel) (hA.gl.below hX.bx.bel hA.gl.sz) (hv2.below hX.bx.bel (Nat.le_refl _)) hu.cell0
 ·intro X oa oc hX ho
  exact ins_stat w gu mb gp mi ln (labs ++ k.labs its.length) its k.ins hio hA g1 hits X oa oc hX ho
end
def itsG (l : List (Int × Lk)) : List It := l.map fun a => a.2.ins.it a.1
def labsG : Nat -> List (Int × Lk) -> List (List UInt8 × Nat)
 | _, [] => []
 | c, a :: r => a.2.labs c ++ labsG (c + 1) r
theorem qBa (a : Int × Lk) : ∀ (l : List (Int × Lk)) (c : Nat), labsG c (l ++ [a]) = labsG c l ++ a.2.labs (c + l.length)
 | [], c => by simp [labsG]
 | b :: l, c => by
   rw [List.cons_append, labsG, qBa a l, labsG, List.append_assoc, List.length_cons]
   rw [show c + 1 + l.length = c + (l.length + 1) by omega]
theorem qDk : ∀ (l : List (Int × Lk)) (c : Nat), (labsG c l).length <= l.length
 | [], c => by simp [labsG]
 | a :: l, c => by
   have := qDk l (c + 1)
   have h1 : (a.2.labs c).length <= 1 := by unfold Lk.labs; split <;> simp
   rw [labsG, List.length_append, List.length_cons]
   omega
theorem qDX (w W1 : World) (gu mb gp mi : Nat) (ks : List (Int × Lk)) (ob : Ob) (hA : AllLaid w) (h : Begun w W1 gu mb gp mi) (hok : ∀ a, a ∈ ks -> a.2.Ok) (hfree : ∀ k (hk : k < ks.length) nm, ks[k].2.lab = some nm -> labelAt nm (labsG 0 (ks.take k)) = none) (hfin : Fin (labsG 0 ks) (itsG ks) ob) : Makes w gu (ks.map fun a => (a.1, a.2.toks)) ob W1 := by
 have hge := h.ge
 have hsz := hA.isa.sz
 have hkn : ks.length <= 3000 := by have := hfin.n; simpa [itsG] using this
 refine ⟨⟨fun k W => ∃ ln, AlR w W gu mb gp mi ln (labsG 0 (ks.take k)) (itsG (ks.take k)) false, fun W => ∃ ln, AlR w W gu mb gp mi ln (labsG 0 ks) (itsG ks) false, fun W' => Rdy w W' gu (labsG 0 ks) ob, ⟨0, h.al⟩, ?_, ?_, ?_, ?_, ?_⟩⟩
 ·rintro k W ⟨ln, hn⟩
  obtain ⟨nv, hu, _⟩ := hn.ur
  obtain ⟨_, _, x1, _⟩ := hu.its
  exact ⟨hn.bx, _, x1, ln, rfl⟩
 ·rintro k hk W v ⟨ln, hn⟩ hv
  have hk' : k < ks.length := by simpa using hk
  simp only [List.getElem_map] at hv ⊢
  have hli : (itsG (ks.take k)).length = k := by simp [itsG]; omega
  have hll := qDk (ks.take k) 0
  rw [List.length_take] at hll
  refine (read_lk w _ gu mb gp mi v ks[k].1 (labsG 0 (ks.take k)) (itsG (ks.take k)) ks[k].2 (hok _ (List.getElem_mem _)) hA hge h.lt h.ne (hn.line hge.1 _ _) (by omega) (by omega) (hfree k hk') hv).mono ?_
  rintro r w' ⟨rfl, hr⟩
  refine ⟨rfl, ks[k].1, ?_⟩
  have e1 : labsG 0 (ks.take (k + 1)) = labsG 0 (ks.take k) ++ ks[k].2.labs (itsG (ks.take k)).length := by
   rw [List.take_succ_eq_append_getElem hk', qBa, hli, Nat.zero_add, List.length_take, Nat.min_eq_left (by omega)]
  have e2 : itsG (ks.take (k + 1)) = itsG (ks.take k) ++ [ks[k].2.ins.it ks[k].1] := by
   rw [List.take_succ_eq_append_getElem hk']
   simp only [itsG, List.map_append, List.map_cons, List.map_nil]
  rw [e1, e2]
  exact hr
 ·rintro W ⟨ln, hn⟩
  rw [List.length_map, List.take_length] at hn
  have hp := hn.po
  simp only [Bool.false_eq_true, if_false] at hp
  obtain ⟨nv, hu, _⟩ := hn.ur
  obtain ⟨_, _, x1, _⟩ := hu.its
  refine (qDx gu gp none 0 W (qB x1 rfl) (qB hp.1 rfl)).mono ?_
  rintro r w' ⟨rfl, rfl⟩
  exact ⟨rfl, ln, hn⟩
 ·rintro W ⟨ln, hn⟩
  exact lay_fin w W gu mb gp mi ln (labsG 0 ks) (itsG ks) ob hA hge.1 hn hfin
 ·rintro W' hr
  exact qIw w W' gu (labsG 0 ks) (itsG ks) ob hA hge.1 hr hfin
end Go.Proofs.YtfmljailbebfgaaGreatDoor
namespace Go.Proofs.YtfmljailbebfgaaGreatDoor
open Go.RowKit
theorem qHt {u : Un} {ob : Ob} (h : unitU 1 u = some (.ok ob)) : unitU 2 u = some (.ok ob) := by
 unfold unitU layU at h ⊢
 simp only at h ⊢
 by_cases h1 : (8000 : Int) < (tellU 0 u.items).getLastD 0
 ·rw [if_pos h1] at h; exact absurd h (by simp)
 ·rw [if_neg h1] at h ⊢
  by_cases h2 : (longU u (tellU 0 u.items) 0 u.items).2 = true
  ·rw [if_pos h2] at h; simp [layU] at h
  ·rw [if_neg h2] at h ⊢
   exact h
theorem half_len (n : Int) : (half n).length = 2 := rfl
def nmAgain : List UInt8 := [97, 103, 97, 105, 110]
def mov0L : List UInt8 := [109, 111, 118, 32, 35, 48, 44, 114, 48]
def mov0T : List Sc.Tok := [⟨1, 0, [109, 111, 118]⟩, ⟨3, 0, [35]⟩, ⟨2, 0, []⟩, ⟨3, 0, [44]⟩, ⟨1, 0, [114, 48]⟩]
def movTL (n : Nat) : List UInt8 := [109, 111, 118, 32, 35] ++ (Lib.itoa n ++ [44, 114, 49])
def movTT (n : Nat) : List Sc.Tok := [⟨1, 0, [109, 111, 118]⟩, ⟨3, 0, [35]⟩, ⟨2, n, []⟩, ⟨3, 0, [44]⟩, ⟨1, 0, [114, 49]⟩]
def addL : List UInt8 := [97, 103, 97, 105, 110, 58, 32, 97, 100, 100, 32, 35, 49, 44, 114, 48]
def addT : List Sc.Tok := [⟨1, 0, [97, 103, 97, 105, 110]⟩, ⟨3, 0, [58]⟩, ⟨1, 0, [97, 100, 100]⟩, ⟨3, 0, [35]⟩, ⟨2, 1, []⟩, ⟨3, 0, [44]⟩, ⟨1, 0, [114, 48]⟩]
def dtL : List UInt8 := [100, 116, 32, 114, 49]
def dtT : List Sc.Tok := [⟨1, 0, [100, 116]⟩, ⟨1, 0, [114, 49]⟩]
def bfL : List UInt8 := [98, 102, 32, 97, 103, 97, 105, 110]
def bfT : List Sc.Tok := [⟨1, 0, [98, 102]⟩, ⟨1, 0, [97, 103, 97, 105, 110]⟩]
def tr1L : List UInt8 := [116, 114, 97, 112, 97, 32, 35, 49]
def tr1T : List Sc.Tok := [⟨1, 0, [116, 114, 97, 112, 97]⟩, ⟨3, 0, [35]⟩, ⟨2, 1, []⟩]
def tr0L : List UInt8 := [116, 114, 97, 112, 97, 32, 35, 48]
def tr0T : List Sc.Tok := [⟨1, 0, [116, 114, 97, 112, 97]⟩, ⟨3, 0, [35]⟩, ⟨2, 0, []⟩]
theorem ok_mov0 : OkL mov0L mov0T := ⟨by kernel_rfl, by kernel_rfl, by simp [mov0T], by decide, by decide⟩
theorem ok_add : OkL addL addT := ⟨by kernel_rfl, by kernel_rfl, by simp [addT], by decide, by decide⟩
theorem ok_dt : OkL dtL dtT := ⟨by kernel_rfl, by kernel_rfl, by simp [dtT], by decide, by decide⟩
theorem ok_bf : OkL bfL bfT := ⟨by kernel_rfl, by kernel_rfl, by simp [bfT], by decide, by decide⟩
theorem ok_tr1 : OkL tr1L tr1T := ⟨by kernel_rfl, by kernel_rfl, by simp [tr1T], by decide, by decide⟩
theorem ok_tr0 : OkL tr0L tr0T := ⟨by kernel_rfl, by kernel_rfl, by simp [tr0T], by decide, by decide⟩
theorem nine {n : Nat} (h0 : 1 <= n) (h1 : n <= 9) : n = 1 \/ n = 2 \/ n = 3 \/ n = 4 \/ n = 5 \/ n = 6 \/ n = 7 \/ n = 8 \/ n = 9 := by omega
theorem ok_movT (n : Nat) (h0 : 1 <= n) (h1 : n <= 9) : OkL (movTL n) (movTT n) := by
 rcases nine h0 h1 with rfl | rfl | rfl | rfl | rfl | rfl | rfl | rfl | rfl <;> exact ⟨by kernel_rfl, by kernel_rfl, by simp [movTT], by decide +kernel, by decide +kernel⟩
def leapL (t b : Nat) : List (List UInt8 × List Sc.Tok) := [(mov0L, mov0T), (movTL t, movTT t), (addL, addT), (reptL b, reptT b), (nopL, nopT), (endrL, endrT), (dtL, dtT), (bfL, bfT), (tr1L, tr1T), (tr0L, tr0T)]
def leapS (t b : Nat) : List UInt8 := (leapL t b).flatMap fun a => a.1 ++ [10]
def leapLn (t b : Nat) : List Sc.Ln := numLn 1 ((leapL t b).map (·.2))
theorem qHO (t b : Nat) (h0 : 1 <= t) (h1 : t <= 9) (hb : b < 1000) : ∀ a, a ∈ leapL t b -> OkL a.1 a.2 := by
 intro a ha
 simp only [leapL, List.mem_cons, List.not_mem_nil, or_false] at ha
 rcases ha with rfl | rfl | rfl | rfl | rfl | rfl | rfl | rfl | rfl | rfl
 ·exact ok_mov0
 ·exact ok_movT t h0 h1
 ·exact ok_add
 ·exact ok_rept b hb
 ·exact ok_nop
 ·exact ok_endr
 ·exact ok_dt
 ·exact ok_bf
 ·exact ok_tr1
 ·exact ok_tr0
theorem leap_src (t b : Nat) (h0 : 1 <= t) (h1 : t <= 9) (hb : b < 1000) : Sc.srcLines (leapS t b) = .ok (leapLn t b) := src_of _ (qHO t b h0 h1 hb) (by simp [leapL])
def plL (b : Nat) : List Pl := [.one, .one, .one, .rep b, .one, .one, .one, .one]
theorem ph_of (s : List UInt8) (r : List Sc.Tok) (hs : ∀ q, q ∈ heads -> (s == q) = false) : PlainHead (headS ((⟨1, 0, s⟩ :: r : List Sc.Tok).map tkOf)) := qE8 (s := s) rfl hs
theorem leap_pl (t b : Nat) (hb : b < 1000) : PlOk (leapLn t b) 0 (plL b) :=
 ⟨⟨_, rfl, ph_of _ _ (by decide)⟩, ⟨_, rfl, ph_of _ _ (by decide)⟩, ⟨_, rfl, ph_of _ _ (by decide)⟩, ⟨_, _, _, _, _, _, rfl, rfl, rfl, rfl, rfl, rep_atom b hb, ph_nop, rfl, rfl⟩, ⟨_, rfl, ph_of _ _ (by decide)⟩, ⟨_, rfl, ph_of _ _ (by decide)⟩, ⟨_, rfl, ph_of _ _ (by decide)⟩, ⟨_, rfl, ph_of _ _ (by decide)⟩, rfl⟩
def iMov (n : Int) (r : List UInt8) : Ins := ⟨[109, 111, 118], [.num n, .reg r], 3⟩
def iAdd (n : Int) (r : List UInt8) : Ins := ⟨[97, 100, 100], [.num n, .reg r], 4⟩
def iNop : Ins := ⟨[110, 111, 112], [], 1⟩
def iDt (r : List UInt8) : Ins := ⟨[100, 116], [.reg r], 16⟩
def iBf (nm : List UInt8) : Ins := ⟨[98, 102], [.name nm], 18⟩
def iTr (n : Int) : Ins := ⟨[116, 114, 97, 112, 97], [.num n], 27⟩
def r0' : List UInt8 := [114, 48]
def r1' : List UInt8 := [114, 49]
def ksL (t b : Nat) : List (Int × Lk) := [(1, ⟨none, iMov 0 r0'⟩), (2, ⟨none, iMov t r1'⟩), (3, ⟨some nmAgain, iAdd 1 r0'⟩)] ++ (List.replicate b (5, ⟨none, iNop⟩) ++ [(7, ⟨none, iDt r1'⟩), (8, ⟨none, iBf nmAgain⟩), (9, ⟨none, iTr 1⟩), (10, ⟨none, iTr 0⟩)])
theorem qFy (t b : Nat) : (plLines (leapLn t b) (plL b)).map lnOf = (ksL t b).map fun a => (a.1, a.2.toks) := by
 simp only [plLines, plL, ksL, idxOf, List.map_append, List.map_cons, List.map_nil, List.map_replicate]
 rfl
theorem qB8 : regU 1 r0' = 0 := by kernel_rfl
theorem qFo : regU 1 r1' = 1 := by kernel_rfl
theorem ok_iNop : iNop.Ok := ⟨by decide, by simp [iNop], by simp [iNop], by decide, find_nop, by decide, by kernel_rfl, by simp [labelled, Ins.toks, iNop, joinK, headT]⟩
theorem qHA : findU ⟨#[109, 111, 118]⟩ ⟨#[35, 114]⟩ 12 0 = 3 := by
 rw [qAb]
 kernel_rfl
theorem qIM : findU ⟨#[97, 100, 100]⟩ ⟨#[35, 114]⟩ 12 0 = 4 := by
 rw [qAb]
 kernel_rfl
theorem find_dt : findU ⟨#[100, 116]⟩ ⟨#[114]⟩ 12 0 = 16 := by
 rw [qAb]
 kernel_rfl
theorem find_tr : findU ⟨#[116, 114, 97, 112, 97]⟩ ⟨#[35]⟩ 12 0 = 27 := by
 rw [qAb]
 kernel_rfl
theorem qC3 (n : Int) (r : List UInt8) : formU ([OpK.num n, .reg r].map OpK.opd) = [35, 114] := by simp [formU, OpK.opd]
theorem form_r (r : List UInt8) : formU ([OpK.reg r].map OpK.opd) = [114] := by simp [formU, OpK.opd]
theorem form_n (n : Int) : formU ([OpK.num n].map OpK.opd) = [35] := by simp [formU, OpK.opd]
theorem form_p (nm : List UInt8) : formU ([OpK.name nm].map OpK.opd) = [112] := by simp [formU, OpK.opd]
theorem qE5 (n : Int) (r : List UInt8) : (iMov n r).fill = ⟨3, regU 1 r, 0, wrap32 n⟩ := by
 simp [Ins.fill, iMov, OpK.opd, fillU, ByteArray.toList_eq, kdN, kdP]
theorem qFH (n : Int) (r : List UInt8) : (iAdd n r).fill = ⟨4, regU 1 r, 0, wrap32 n⟩ := by
 simp [Ins.fill, iAdd, OpK.opd, fillU, ByteArray.toList_eq, kdN, kdP]
theorem qHb (r : List UInt8) : (iDt r).fill = ⟨16, regU 1 r, 0, 0⟩ := by
 simp [Ins.fill, iDt, OpK.opd, fillU, ByteArray.toList_eq, kdN, kdP]
theorem qIF (n : Int) : (iTr n).fill = ⟨27, 0, 0, wrap32 n⟩ := by
 simp [Ins.fill, iTr, OpK.opd, fillU, ByteArray.toList_eq, kdN]
theorem qG2 (nm : List UInt8) : (iBf nm).fill = ⟨18, 0, 0, 0⟩ := by
 simp [Ins.fill, iBf, OpK.opd, fillU, ByteArray.toList_eq, kdN, kdP]
theorem qEQ (nm : List UInt8) (k : OpK) (r : List OpK) (op : Int) (h2 : ∀ n m, k.toks.head? = some ⟨3, n, m⟩ -> m.toList ≠ [58]) : labelled (Ins.toks ⟨nm, k :: r, op⟩) = false := by
 have e : ∃ x y, joinK (k :: r) = x :: y /\ k.toks.head? = some x := by
  cases hk : k.toks with
  | nil => exact absurd hk (qI5 k)
  | cons x y =>
    cases r with
    | nil => exact ⟨x, y, by rw [joinK, hk], rfl⟩
    | cons b r => exact ⟨x, y ++ (tkComma :: joinK (b :: r)), by rw [joinK, hk]; rfl, rfl⟩
 obtain ⟨⟨xk, xn, xt⟩, y, e1, e2⟩ := e
 unfold labelled Ins.toks
 rw [e1]
 simp only [headT, wd, List.tail_cons]
 by_cases h3 : xk = 3
 ·subst h3
  have := h2 xn xt e2
  simp [this]
 ·simp [h3]
theorem qEt (nm : List UInt8) (n : Int) (r : List OpK) (op : Int) : labelled (Ins.toks ⟨nm, .num n :: r, op⟩) = false :=
 qEQ nm (.num n) r op (by intro a m h; simp [OpK.toks, sg] at h; obtain ⟨rfl, rfl⟩ := h; simp [ByteArray.toList_eq])
theorem lab_reg (nm t : List UInt8) (r : List OpK) (op : Int) : labelled (Ins.toks ⟨nm, .reg t :: r, op⟩) = false :=
 qEQ nm (.reg t) r op (by intro a m h; simp [OpK.toks, wd] at h)
theorem lab_name (nm t : List UInt8) (r : List OpK) (op : Int) : labelled (Ins.toks ⟨nm, .name t :: r, op⟩) = false :=
 qEQ nm (.name t) r op (by intro a m h; simp [OpK.toks, wd] at h)
theorem qEj (n : Int) (r : List UInt8) (hr : 0 <= regU 1 r) (hw : Isa.wrongI 3 (regU 1 r) 0 (wrap32 n) = 0) : (iMov n r).Ok :=
 ⟨by show [109, 111, 118] ∉ dirs; decide, by intro k hk; simp [iMov] at hk; rcases hk with rfl | rfl; trivial; exact hr, by simp [iMov], by rw [iMov, qC3]; decide, by rw [iMov, qC3]; exact qHA, by show (3 : Int) ≠ 0; decide, by rw [qE5]; exact hw, qEt _ _ _ _⟩
theorem ok_iAdd (n : Int) (r : List UInt8) (hr : 0 <= regU 1 r) (hw : Isa.wrongI 4 (regU 1 r) 0 (wrap32 n) = 0) : (iAdd n r).Ok :=
 ⟨by show [97, 100, 100] ∉ dirs; decide, by intro k hk; simp [iAdd] at hk; rcases hk with rfl | rfl; trivial; exact hr, by simp [iAdd], by rw [iAdd, qC3]; decide, by rw [iAdd, qC3]; exact qIM, by show (4 : Int) ≠ 0; decide, by rw [qFH]; exact hw, qEt _ _ _ _⟩
theorem ok_iDt (r : List UInt8) (hr : 0 <= regU 1 r) (hw : Isa.wrongI 16 (regU 1 r) 0 0 = 0) : (iDt r).Ok :=
 ⟨by show [100, 116] ∉ dirs; decide, by intro k hk; simp [iDt] at hk; subst hk; exact hr, by simp [iDt], by rw [iDt, form_r]; decide, by rw [iDt, form_r]; exact find_dt, by show (16 : Int) ≠ 0; decide, by rw [qHb]; exact hw, lab_reg _ _ _ _⟩
theorem qFB (n : Int) (hw : Isa.wrongI 27 0 0 (wrap32 n) = 0) : (iTr n).Ok :=
 ⟨by show [116, 114, 97, 112, 97] ∉ dirs; decide, by intro k hk; simp [iTr] at hk; subst hk; trivial, by simp [iTr], by rw [iTr, form_n]; decide, by rw [iTr, form_n]; exact find_tr, by show (27 : Int) ≠ 0; decide, by rw [qIF]; exact hw, qEt _ _ _ _⟩
theorem ok_iBf (nm : List UInt8) (h1 : Xp.nameR nm = true) (h2 : regU 1 nm < 0) : (iBf nm).Ok :=
 ⟨by show [98, 102] ∉ dirs; decide, by intro k hk; simp [iBf] at hk; subst hk; exact ⟨h1, h2⟩, by simp [iBf], by rw [iBf, form_p]; decide, by rw [iBf, form_p]; exact find_bf, by show (18 : Int) ≠ 0; decide, by rw [qG2]; kernel_rfl, lab_name _ _ _ _⟩
theorem enc_ok {op n m imm : Int} (h : Isa.wrongI op n m imm = 0) : encU op n m imm = .ok (half (Isa.encI op n m imm)) := by rw [encU, if_pos h]
def plb (ln op n m imm : Int) : It × List UInt8 := (plainI ln op n m imm, half (Isa.encI op n m imm))
theorem qA5 {ln op n m imm : Int} (h : Isa.wrongI op n m imm = 0) : Two (plb ln op n m imm) := qIA (enc_ok h)
theorem w_mov (t : Nat) (h1 : t <= 9) : Isa.wrongI 3 1 0 t = 0 := by
 have a : Isa.layLow (Isa.opShape 3) = -128 := rfl
 have b : Isa.layHigh (Isa.opShape 3) = 127 := rfl
 unfold Isa.wrongI
 rw [if_pos (by decide), a, b, if_pos ⟨by decide, by decide, by simp [Isa.withinB]; omega⟩]
def headL (t b : Nat) : List (It × List UInt8) := [plb 1 3 0 0 0, plb 2 3 1 0 t, plb 3 4 0 0 1] ++ (List.replicate b (plb 5 1 0 0 0) ++ [plb 7 16 1 0 0])
def tailL' : List (It × List UInt8) := [plb 9 27 0 0 1, plb 10 27 0 0 0]
theorem qFY (t b : Nat) (h1 : t <= 9) : ∀ x, x ∈ headL t b -> Two x := by
 intro x hx
 simp only [headL, List.mem_append, List.mem_cons, List.not_mem_nil, or_false, List.mem_replicate] at hx
 rcases hx with (rfl | rfl | rfl) | ⟨_, rfl⟩ | rfl
 ·exact qA5 (by kernel_rfl)
 ·exact qA5 (w_mov t h1)
 ·exact qA5 (by kernel_rfl)
 ·exact qA5 (by kernel_rfl)
 ·exact qA5 (by kernel_rfl)
theorem qFK : ∀ x, x ∈ tailL' -> Two x := by
 intro x hx
 simp only [tailL', List.mem_cons, List.not_mem_nil, or_false] at hx
 rcases hx with rfl | rfl
 ·exact qA5 (by kernel_rfl)
 ·exact qA5 (by kernel_rfl)
theorem head_len (t b : Nat) : (headL t b).length = b + 4 := by simp [headL]
theorem qAF (t : Nat) (h : t <= 9) : wrap32 (t : Int) = t := by unfold wrap32; omega
theorem it_mov (n : Int) (r : List UInt8) (ln : Int) : (iMov n r).it ln = plainI ln 3 (regU 1 r) 0 (wrap32 n) := by
 show plainI ln (iMov n r).fill.op (iMov n r).fill.n (iMov n r).fill.m (iMov n r).fill.imm = _
 rw [qE5]
theorem it_add (n : Int) (r : List UInt8) (ln : Int) : (iAdd n r).it ln = plainI ln 4 (regU 1 r) 0 (wrap32 n) := by
 show plainI ln (iAdd n r).fill.op (iAdd n r).fill.n (iAdd n r).fill.m (iAdd n r).fill.imm = _
 rw [qFH]
theorem it_dt (r : List UInt8) (ln : Int) : (iDt r).it ln = plainI ln 16 (regU 1 r) 0 0 := by
 show plainI ln (iDt r).fill.op (iDt r).fill.n (iDt r).fill.m (iDt r).fill.imm = _
 rw [qHb]
theorem it_tr (n : Int) (ln : Int) : (iTr n).it ln = plainI ln 27 0 0 (wrap32 n) := by
 show plainI ln (iTr n).fill.op (iTr n).fill.n (iTr n).fill.m (iTr n).fill.imm = _
 rw [qIF]
theorem it_bf (nm : List UInt8) (ln : Int) : (iBf nm).it ln = ledI ln 18 2 nm := by
 show leadI ln (iBf nm).fill.op (iBf nm).fill.n (iBf nm).fill.m (iBf nm).fill.imm (.val nm 0) = _
 rw [qG2]
 rfl
theorem it_nop (ln : Int) : iNop.it ln = plainI ln 1 0 0 0 := rfl
theorem its_leap (t b : Nat) (h : t <= 9) : itsG (ksL t b) = fsts (headL t b) ++ ledI 8 18 2 nmAgain :: fsts tailL' := by
 simp only [itsG, ksL, List.map_append, List.map_cons, List.map_nil, List.map_replicate, it_mov, it_add, it_dt, it_tr, it_bf, it_nop, qB8, qFo, qAF t h]
 simp [fsts, headL, tailL', plb, wrap32]
theorem qBF (b : List (Int × Lk)) : ∀ (a : List (Int × Lk)) (c : Nat), labsG c (a ++ b) = labsG c a ++ labsG (c + a.length) b
 | [], c => by simp [labsG]
 | x :: a, c => by
   rw [List.cons_append, labsG, qBF b a, labsG, List.append_assoc, List.length_cons]
   rw [show c + 1 + a.length = c + (a.length + 1) by omega]
theorem qEF (x : Int × Lk) (h : x.2.lab = none) : ∀ (n c : Nat), labsG c (List.replicate n x) = []
 | 0, c => rfl
 | n + 1, c => by
   rw [List.replicate_succ, labsG, qEF x h n]
   simp [Lk.labs, h]
theorem qDi (t b : Nat) : labsG 0 (ksL t b) = [(nmAgain, 2)] := by
 unfold ksL
 rw [qBF, qBF, qEF _ rfl]
 simp [labsG, Lk.labs]
def leapI (t b : Nat) : List In := [⟨3, 0, 0, 0⟩, ⟨3, 1, 0, t⟩, ⟨4, 0, 0, 1⟩] ++ (List.replicate b ⟨1, 0, 0, 0⟩ ++ (⟨16, 1, 0, 0⟩ :: ((if b <= 124 then [⟨18, 0, 0, -((b : Int) + 4)⟩] else [⟨17, 0, 0, 1⟩, ⟨19, 0, 0, -((b : Int) + 5)⟩, ⟨1, 0, 0, 0⟩]) ++ [⟨27, 0, 0, 1⟩, ⟨27, 0, 0, 0⟩])))
theorem qE9 (a b : List In) : encsB (a ++ b) = encsB a ++ encsB b := by simp [encsB]
theorem qCo (t b : Nat) : (headL t b).flatMap (·.2) = encsB ([⟨3, 0, 0, 0⟩, ⟨3, 1, 0, t⟩, ⟨4, 0, 0, 1⟩] ++ (List.replicate b ⟨1, 0, 0, 0⟩ ++ [⟨16, 1, 0, 0⟩])) := by
 have hr : (List.replicate b (plb 5 1 0 0 0)).flatMap (·.2) = encsB (List.replicate b ⟨1, 0, 0, 0⟩) := by
  induction b with
  | zero => rfl
  | succ b ih =>
    rw [List.replicate_succ, List.replicate_succ, List.flatMap_cons, ih]
    rfl
 unfold headL
 rw [List.flatMap_append, List.flatMap_append, hr, qE9, qE9]
 rfl
theorem fin_leap (t b : Nat) (h1 : t <= 9) (hb : b <= 1000) : Fin (labsG 0 (ksL t b)) (itsG (ksL t b)) ⟨encsB (leapI t b), [⟨nmAgain, 4⟩], []⟩ := by
 rw [qDi, its_leap t b h1]
 have hnm : nmAgain ≠ [] := by decide
 have hl := head_len t b
 have hlen : (fsts (headL t b) ++ ledI 8 18 2 nmAgain :: fsts tailL').length = b + 7 := by rw [List.length_append, List.length_cons, qBp, qBp, hl]; simp [tailL']
 have hun : unitU 2 ⟨[(nmAgain, 2)], fsts (headL t b) ++ ledI 8 18 2 nmAgain :: fsts tailL', fun _ => 0⟩ = some (.ok ⟨encsB (leapI t b), [⟨nmAgain, 4⟩], []⟩) := by
  by_cases h : b <= 124
  ·have := qHt (mid_near hnm (.inr rfl) 8 (headL t b) tailL' (qFY t b h1) qFK 2 (by omega) (by omega) (by rw [hl]; simp [tailL']; omega))
   rw [this]
   congr 3
   rw [qCo, hl, leapI, if_pos h]
   have e : -(((b + 4 : Nat) : Int) - ((2 : Nat) : Int) + 2) = -((b : Int) + 4) := by omega
   rw [e]
   simp [encsB, shortB, In.enc, tailL', plb]
  ·have := mid_far hnm (.inr rfl) 8 (headL t b) tailL' (qFY t b h1) qFK 2 (by omega) (by omega) (by rw [hl]; simp [tailL']; omega)
   rw [this]
   congr 3
   rw [qCo, hl, leapI, if_neg h]
   have e : -(((b + 4 : Nat) : Int) - ((2 : Nat) : Int) + 3) = -((b : Int) + 5) := by omega
   rw [e]
   simp [encsB, farB, In.enc, tailL', plb]
   with_unfolding_all rfl
 have hcode : (encsB (leapI t b)).length <= 100000 := by
  have hh : ∀ l : List In, (encsB l).length = 2 * l.length := by
   intro l
   induction l with
   | nil => rfl
   | cons a l ih =>
     have e : encsB (a :: l) = half a.enc ++ encsB l := by simp [encsB]
     rw [e, List.length_append, ih, half_len, List.length_cons]
     omega
  rw [hh, leapI]
  split <;> simp <;> omega
 have hpl : ∀ a op n m imm : Int, IOk [(nmAgain, 2)] (plainI a op n m imm) := fun a op n m imm => ⟨⟨by show (0 : Int) <= 2; decide, by show (2 : Int) <= 6; decide, by show (1 : Int) <= 1; decide, by show (1 : Int) <= 16; decide⟩, ⟨by show (1 : Int) <= 2; decide, by show (2 : Int) <= 16; decide⟩, rfl, trivial⟩
 refine ⟨?_, by omega, by omega, ?_, ?_, by simp, hun, hcode, by simp⟩
 ·intro i hi
  rcases List.mem_append.1 hi with hi | hi
  ·obtain ⟨x, hx, rfl⟩ := List.mem_map.1 hi
   simp only [headL, List.mem_append, List.mem_cons, List.not_mem_nil, or_false, List.mem_replicate] at hx
   rcases hx with (rfl | rfl | rfl) | ⟨_, rfl⟩ | rfl <;> exact hpl _ _ _ _ _
  ·rcases List.mem_cons.1 hi with rfl | hi
   ·exact ⟨⟨by show (0 : Int) <= 2; decide, by show (2 : Int) <= 6; decide, by show (1 : Int) <= 1; decide, by show (1 : Int) <= 16; decide⟩, ⟨by show (1 : Int) <= 2; decide, by show (2 : Int) <= 16; decide⟩, rfl, .inl rfl, .inr rfl, nmAgain, 0, 2, rfl, by decide, by decide, by decide, by decide, by simp [labelAt]⟩
   ·obtain ⟨x, hx, rfl⟩ := List.mem_map.1 hi
    simp only [tailL', List.mem_cons, List.not_mem_nil, or_false] at hx
    rcases hx with rfl | rfl <;> exact hpl _ _ _ _ _
 ·intro nm k hk
  unfold labelAt at hk
  split at hk
  ·injection hk with hk; omega
  ·simp [labelAt] at hk
 ·intro j hj
  obtain rfl : j = 0 := by simpa using hj
  exact ⟨by simp [labelAt], by show nmAgain.length <= maxLen; decide⟩
theorem ok_leapK (t b : Nat) (h1 : t <= 9) : ∀ a, a ∈ ksL t b -> a.2.Ok := by
 intro a ha
 simp only [ksL, List.mem_append, List.mem_cons, List.not_mem_nil, or_false, List.mem_replicate] at ha
 have hr0 : 0 <= regU 1 r0' := by rw [qB8]; decide
 have hr1 : 0 <= regU 1 r1' := by rw [qFo]; decide
 rcases ha with (rfl | rfl | rfl) | ⟨_, rfl⟩ | rfl | rfl | rfl | rfl
 ·exact ⟨qEj 0 r0' hr0 (by rw [qB8]; kernel_rfl), by simp⟩
 ·exact ⟨qEj t r1' hr1 (by rw [qFo, qAF t h1]; exact w_mov t h1), by simp⟩
 ·refine ⟨ok_iAdd 1 r0' hr0 (by rw [qB8]; kernel_rfl), fun nm h => ?_⟩
  obtain rfl : nmAgain = nm := by simpa using h
  exact ⟨by decide, by unfold regU; decide, by decide⟩
 ·exact ⟨ok_iNop, by simp⟩
 ·exact ⟨ok_iDt r1' hr1 (by rw [qFo]; kernel_rfl), by simp⟩
 ·exact ⟨ok_iBf nmAgain (by decide) (by unfold regU; decide), by simp⟩
 ·exact ⟨qFB 1 (by kernel_rfl), by simp⟩
 ·exact ⟨qFB 0 (by kernel_rfl), by simp⟩
theorem one_lab (ks : List (Int × Lk)) (x : List UInt8 × Nat) (h : labsG 0 ks = [x]) : ∀ k (hk : k < ks.length) nm, ks[k].2.lab = some nm -> labelAt nm (labsG 0 (ks.take k)) = none := by
 intro k hk nm e
 have h1 := qBF (ks.drop (k + 1)) (ks.take (k + 1)) 0
 rw [List.take_append_drop, h, List.take_succ_eq_append_getElem hk, qBa] at h1
 have h2 := congrArg List.length h1
 have h3 : (ks[k].2.labs (0 + (ks.take k).length)).length = 1 := by simp [Lk.labs, e]
 simp only [List.length_append, List.length_cons, List.length_nil] at h2
 have h4 : labsG 0 (ks.take k) = [] := List.eq_nil_of_length_eq_zero (by omega)
 rw [h4]
 rfl
theorem qBV : ∀ (l : List (List Sc.Tok)) (k : Nat), (∀ a, a ∈ l -> a.length <= 100000) -> ∀ x, x ∈ numLn k l -> x.toks.length <= 100000
 | [], k, _, x, hx => by simp [numLn] at hx
 | a :: l, k, h, x, hx => by
   simp only [numLn, List.mem_cons] at hx
   rcases hx with rfl | hx
   ·exact h a (by simp)
   ·exact qBV l (k + 1) (fun b hb => h b (by simp [hb])) x hx
theorem qHf (v : Value) (t b : Nat) (w : World) (hA : AllLaid w) (h0 : 1 <= t) (h1 : t <= 9) (hb : b <= 180) (hv : Sc.BReads w v (leapS t b)) :
  Calls Tryz.prog 25 #[v] w fun e w' => (∃ ca cl cc sa sl sc qa ql qc, e = .returned (.tuple #[.agg #[.slice ca cl cc, .slice sa sl sc, .slice qa ql qc], .agg #[.int .i64 0, .int .i64 0]]) /\ ObjAt w' (.slice ca cl cc) (.slice sa sl sc) (.slice qa ql qc) ⟨encsB (leapI t b), [⟨nmAgain, 4⟩], []⟩) /\ Below w.heap.size w w' := by
 have hpl : (idxOf 0 (plL b)).length = b + 7 := by simp [plL, idxOf]
 have hlk : lkOf (plL b) = b + 8 := by simp [plL, lkOf]; omega
 refine qFi v (leapS t b) (leapLn t b) (plL b) _ w hv (leap_src t b h0 h1 (by omega)) (by show 10 <= 1000; decide) (leap_pl t b (by omega)) (by rw [hpl]; omega) (by rw [hlk]; omega) ?_ hA.ex hA.gl ?_
 ·intro x hx
  refine qBV _ 1 ?_ x hx
  intro a ha
  simp only [leapL, List.map_cons, List.map_nil, List.mem_cons, List.not_mem_nil, or_false] at ha
  rcases ha with rfl | rfl | rfl | rfl | rfl | rfl | rfl | rfl | rfl | rfl <;> simp [mov0T, movTT, addT, reptT, nopT, endrT, dtT, bfT, tr1T, tr0T]
 ·intro u W hbw hl
  rw [qFy] at hl
  have hAW : AllLaid W := ⟨hA.isa.below hbw hA.isa.sz, hA.frm.below hbw hA.frm.sz, KL.below hA.ex hbw, hA.gl.below hbw hA.gl.sz⟩
  have hlen : (ksL t b).length <= 1000 := by simp [ksL]; omega
  exact qDf u _ _ W hl (by simpa using hlen) (fun gu mb gp mi W1 h => qDX W W1 gu mb gp mi (ksL t b) _ hAW h (ok_leapK t b h1) (one_lab _ _ (qDi t b)) (fin_leap t b h1 (by omega)))
def mov5L : List UInt8 := [109, 111, 118, 32, 35, 53, 44, 114, 48]
def mov5T : List Sc.Tok := [⟨1, 0, [109, 111, 118]⟩, ⟨3, 0, [35]⟩, ⟨2, 5, []⟩, ⟨3, 0, [44]⟩, ⟨1, 0, [114, 48]⟩]
theorem ok_mov5 : OkL mov5L mov5T := ⟨by kernel_rfl, by kernel_rfl, by simp [mov5T], by decide, by decide⟩
def fiveL : List (List UInt8 × List Sc.Tok) := [(mov5L, mov5T), (tr1L, tr1T), (tr0L, tr0T)]
def fiveS : List UInt8 := fiveL.flatMap fun a => a.1 ++ [10]
def fiveLn : List Sc.Ln := numLn 1 (fiveL.map (·.2))
theorem five_src : Sc.srcLines fiveS = .ok fiveLn := src_of _ (by
 intro a ha
 simp only [fiveL, List.mem_cons, List.not_mem_nil, or_false] at ha
 rcases ha with rfl | rfl | rfl
 ·exact ok_mov5
 ·exact ok_tr1
 ·exact ok_tr0) (by simp [fiveL])
def ksFive : List (Int × Lk) := [(1, ⟨none, iMov 5 r0'⟩), (2, ⟨none, iTr 1⟩), (3, ⟨none, iTr 0⟩)]
def fiveI : List In := [⟨3, 0, 0, 5⟩, ⟨27, 0, 0, 1⟩, ⟨27, 0, 0, 0⟩]
theorem five_its : itsG ksFive = [plainI 1 3 0 0 5, plainI 2 27 0 0 1, plainI 3 27 0 0 0] := by
 simp only [itsG, ksFive, List.map_cons, List.map_nil, it_mov, it_tr, qB8]
 simp [wrap32]
theorem five_fin : Fin (labsG 0 ksFive) (itsG ksFive) ⟨encsB fiveI, [], []⟩ := by
 have hlb : labsG 0 ksFive = [] := rfl
 rw [five_its, hlb]
 refine ⟨?_, by simp, by simp, by simp [labelAt], by simp, by simp, by kernel_rfl, ⟨by decide +kernel, by simp⟩⟩
 intro i hi
 simp only [List.mem_cons, List.not_mem_nil, or_false] at hi
 rcases hi with rfl | rfl | rfl <;> exact ⟨⟨by decide, by decide, by decide, by decide⟩, ⟨by decide, by decide⟩, rfl, trivial⟩
theorem qIc (v : Value) (w : World) (hA : AllLaid w) (hv : Sc.BReads w v fiveS) :
  Calls Tryz.prog 25 #[v] w fun e w' => (∃ ca cl cc sa sl sc qa ql qc, e = .returned (.tuple #[.agg #[.slice ca cl cc, .slice sa sl sc, .slice qa ql qc], .agg #[.int .i64 0, .int .i64 0]]) /\ ObjAt w' (.slice ca cl cc) (.slice sa sl sc) (.slice qa ql qc) ⟨encsB fiveI, [], []⟩) /\ Below w.heap.size w w' := by
 refine qFi v fiveS fiveLn [.one, .one, .one] _ w hv five_src (by decide) ⟨⟨_, rfl, ph_of _ _ (by decide)⟩, ⟨_, rfl, ph_of _ _ (by decide)⟩, ⟨_, rfl, ph_of _ _ (by decide)⟩, rfl⟩ (by decide) (by decide) ?_ hA.ex hA.gl ?_
 ·intro x hx
  refine qBV _ 1 ?_ x hx
  intro a ha
  simp only [fiveL, List.map_cons, List.map_nil, List.mem_cons, List.not_mem_nil, or_false] at ha
  rcases ha with rfl | rfl | rfl <;> simp [mov5T, tr1T, tr0T]
 ·intro u W hbw hl
  have hAW : AllLaid W := ⟨hA.isa.below hbw hA.isa.sz, hA.frm.below hbw hA.frm.sz, KL.below hA.ex hbw, hA.gl.below hbw hA.gl.sz⟩
  have e : (plLines fiveLn [.one, .one, .one]).map lnOf = ksFive.map fun a => (a.1, a.2.toks) := rfl
  rw [e] at hl
  refine qDf u _ _ W hl (by decide) (fun gu mb gp mi W1 h => qDX W W1 gu mb gp mi ksFive _ hAW h ?_ (fun k hk nm hnm => ?_) five_fin)
  rotate_left
  ·have h3 : k = 0 \/ k = 1 \/ k = 2 := by simp [ksFive] at hk; omega
   rcases h3 with rfl | rfl | rfl <;> rfl
  intro a ha
  have hr0 : 0 <= regU 1 r0' := by rw [qB8]; decide
  simp only [ksFive, List.mem_cons, List.not_mem_nil, or_false] at ha
  rcases ha with rfl | rfl | rfl
  ·exact ⟨qEj 5 r0' hr0 (by rw [qB8]; kernel_rfl), by simp⟩
  ·exact ⟨qFB 1 (by kernel_rfl), by simp⟩
  ·exact ⟨qFB 0 (by kernel_rfl), by simp⟩
def UnitTo (v : Value) (ob : Ob) (W : World) : Prop := Calls Tryz.prog 25 #[v] W fun e w' => (∃ ca cl cc sa sl sc qa ql qc, e = .returned (.tuple #[.agg #[.slice ca cl cc, .slice sa sl sc, .slice qa ql qc], .agg #[.int .i64 0, .int .i64 0]]) /\ ObjAt w' (.slice ca cl cc) (.slice sa sl sc) (.slice qa ql qc) ob) /\ Below W.heap.size W w'
theorem built_ok (va : Option Addr) (vl vc : Nat) (ob : Ob) (w : World) (hun : ∀ W, Below w.heap.size w W -> UnitTo (.slice va vl vc) ob W) (hwr : ∀ W c s q, ObjAt W c s q ob -> Calls Tryz.prog 26 #[.agg #[c, s, q]] W fun r w' => r = .returned (.int .i64 0) /\ Below W.heap.size W w') :
  Calls Tryz.prog 16 #[.slice va vl vc] w fun e w' => (∃ ca cl cc sa sl sc qa ql qc, e = .returned (.tuple #[.agg #[.slice ca cl cc, .slice sa sl sc, .slice qa ql qc], .int .i64 0]) /\ ObjAt w' (.slice ca cl cc) (.slice sa sl sc) (.slice qa ql qc) ob) /\ Below w.heap.size w w' := by
 have HUN := Lib.hid hun
 have HWR := Lib.hid hwr
 clear hun hwr
 go_enter Tryz.func16, Tryz.ntmps16
 go_wp2_with fail
 refine (HUN.out _ (oalloc _ _)).mono ?_
 rintro e w1 ⟨⟨ca, cl, cc, sa, sl, sc, qa, ql, qc, rfl, hob⟩, hb1⟩
 obtain ⟨hB1, hz1, xr⟩ := qL hb1
 have HB1 := Lib.hid hB1
 have HO1 := Lib.hid hob
 have XR := Lib.hid xr
 clear hb1 hB1 hob xr HUN
 go_wp2_with fail
 have hb2 : Below w1.heap.size w1 ((w1.alloc (.cells #[.slice ca cl cc, .slice sa sl sc, .slice qa ql qc] 51)).alloc (.cells #[.int .i64 0, .int .i64 0] 38)) := by go_grown
 have hO2 : ObjAt ((w1.alloc (.cells #[.slice ca cl cc, .slice sa sl sc, .slice qa ql qc] 51)).alloc (.cells #[.int .i64 0, .int .i64 0] 38)) (.slice ca cl cc) (.slice sa sl sc) (.slice qa ql qc) ob := ⟨HO1.out.1.below hb2 (Nat.le_refl _), HO1.out.2.1.below hb2 (Nat.le_refl _), HO1.out.2.2.below hb2 (Nat.le_refl _)⟩
 refine (HWR.out _ _ _ _ hO2).mono ?_
 rintro e w3 ⟨rfl, hb3⟩
 have hb13 : Below w1.heap.size w1 w3 := hb2.trans (hb3.mono hb2.size)
 have z0 := (hb13.block _ (qC XR.out)).trans XR.out
 have y0 : w3.heap[w1.heap.size]? = some (.cells #[.slice ca cl cc, .slice sa sl sc, .slice qa ql qc] 51 (0, 0)) := by
  rw [hb3.block _ (by go_size), old2 _ _ (by go_size)]
  exact qG _ _ rfl
 have k0 : w3.cell? ⟨w1.heap.size, 0, none⟩ = some (.slice ca cl cc) := qB y0 rfl
 have k1 : w3.cell? ⟨w1.heap.size, 1, none⟩ = some (.slice sa sl sc) := qB y0 rfl
 have k2 : w3.cell? ⟨w1.heap.size, 2, none⟩ = some (.slice qa ql qc) := qB y0 rfl
 have g0 : w3.cell? ⟨w.heap.size, 0, none⟩ = some (.slice none 0 0) := qB z0 rfl
 have g1 : w3.cell? ⟨w.heap.size, 1, none⟩ = some (.slice none 0 0) := qB z0 rfl
 have g2 : w3.cell? ⟨w.heap.size, 2, none⟩ = some (.slice none 0 0) := qB z0 rfl
 have q0 : w3.frozen? ⟨w.heap.size, 0, none⟩ = false := qD z0
 have q1 : w3.frozen? ⟨w.heap.size, 1, none⟩ = false := qD z0
 have q2 : w3.frozen? ⟨w.heap.size, 2, none⟩ = false := qD z0
 have hzz := qC z0
 have hzy := qC y0
 have Z0 := Lib.hid z0
 have HOB : Hid (ObjAt w3 (.slice ca cl cc) (.slice sa sl sc) (.slice qa ql qc) ob) := ⟨HO1.out.1.below hb13 (Nat.le_refl _), HO1.out.2.1.below hb13 (Nat.le_refl _), HO1.out.2.2.below hb13 (Nat.le_refl _)⟩
 have HB3 := Lib.hid (HB1.out.trans (hb13.mono HB1.out.size))
 clear hb2 hb3 hb13 hO2 z0 y0 HO1 HB1 XR HWR
 go_wp2_with fail
 have n3 : ∀ (x y z : Option Addr) (a b c d e f : Nat) (j : Nat) (n : Int), (#[Value.slice x a b, .slice y c d, .slice z e f] : Array Value)[j]? ≠ some (.int .u8 n) := by
  intro x y z a b c d e f j n h
  rcases j with _ | _ | _ | j <;> simp at h
 have m3 : ∀ (x y z : Option Addr) (a b c d e f : Nat) (j : Nat) (n : ByteArray), (#[Value.slice x a b, .slice y c d, .slice z e f] : Array Value)[j]? ≠ some (.string n) := by
  intro x y z a b c d e f j n h
  rcases j with _ | _ | _ | j <;> simp at h
 have o1 := HOB.out.set (i := 0) (v := .slice ca cl cc) Z0.out (m3 _ _ _ _ _ _ _ _ _) (n3 _ _ _ _ _ _ _ _ _)
 have z1 := qI (i := 0) (v := .slice ca cl cc) Z0.out
 have o2 := o1.set (i := 1) (v := .slice sa sl sc) z1 (m3 _ _ _ _ _ _ _ _ _) (n3 _ _ _ _ _ _ _ _ _)
 have z2 := qI (i := 1) (v := .slice sa sl sc) z1
 have o3 := o2.set (i := 2) (v := .slice qa ql qc) z2 (m3 _ _ _ _ _ _ _ _ _) (n3 _ _ _ _ _ _ _ _ _)
 exact bodyPost_ret (v := .tuple #[.agg #[.slice ca cl cc, .slice sa sl sc, .slice qa ql qc], .int .i64 0]) (by simp [results, Tryz.results16, go_sem, g0, g1, g2]) rfl ⟨⟨ca, cl, cc, sa, sl, sc, qa, ql, qc, rfl, o3⟩, ((HB3.out.setCell (Nat.le_refl _) _).setCell (Nat.le_refl _) _).setCell (Nat.le_refl _) _⟩
end Go.Proofs.YtfmljailbebfgaaGreatDoor
