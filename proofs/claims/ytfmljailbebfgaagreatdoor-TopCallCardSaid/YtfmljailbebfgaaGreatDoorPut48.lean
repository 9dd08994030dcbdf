import Derived.Test.YtfmljailbebfgaaGreatDoorPut47
namespace Go.Proofs.YtfmljailbebfgaaGreatDoor
open Go.RowKit Go.Maps Go.MapKept
def PoR (W : World) (gp mi : Nat) : Option (List UInt8 × Int) -> Prop
 | none => W.heap[gp]? = some (.cells #[.int .i64 0, .slice none 0 0, .map (some mi)] 186 (0, 0)) /\ W.heap[mi]? = some (.map #[] 0)
 | some (nm, n) => ∃ va vc b0, W.heap[gp]? = some (.cells #[.int .i64 0, .slice va 1 vc, .map (some mi)] 186 (0, 0)) /\ W.ownsRow b0 203 2 (.slice va 1 vc) 1 [.string ⟨nm.toArray⟩, .int .i64 n]
structure AlQ (w W : World) (gu mb gp mi : Nat) (ln : Int) (labs : List (List UInt8 × Nat)) (its : List It) (q : Option (List UInt8 × Int)) (old : Option (Nat × Nat)) : Prop where
 bx : Bx w W
 ur : ∃ nv, UR W (gu + 1) gu (.slice none 0 0) ln nv (.map (some mb)) (.pointer (some ⟨gp, 0, none⟩)) (.slice none 0 0) (.slice none 0 0) its /\ W.ownsRow (gu + 1) 9 1 nv labs.length (qCL labs)
 lb : LbR W mb labs
 po : PoR W gp mi q
 od : ∀ g f, old = some (g, f) -> ∃ vv mv, W.heap[g]? = some (.cells #[.int .i64 ((f : Nat) : Int), vv, mv] 186 (0, 0))
theorem AlQ.of {w W : World} {gu mb gp mi : Nat} {ln : Int} {labs : List (List UInt8 × Nat)} {its : List It} (h : AlR w W gu mb gp mi ln labs its false) : AlQ w W gu mb gp mi ln labs its none none :=
 ⟨h.bx, h.ur, h.lb, by have := h.po; simp only [Bool.false_eq_true, if_false] at this; exact this, fun _ _ e => by cases e⟩
def qDm (W W' : World) : Prop := ∀ (q : Nat) (o : Obj), W.heap[q]? = some o -> (∀ c f, o ≠ .cells c 143 f) -> (∀ c f, o ≠ .cells c 200 f) -> W'.heap[q]? = some o
theorem qDm.below {W W' : World} (h : Below W.heap.size W W') : qDm W W' := fun q o hb _ _ => by rw [h.block q (qC hb)]; exact hb
theorem qDm.cells {W W' : World} (h : qDm W W') {q : Nat} {c : Array Value} {t : TypeId} (hq : W.heap[q]? = some (.cells c t (0, 0))) (h1 : t ≠ 143) (h2 : t ≠ 200) : W'.heap[q]? = some (.cells c t (0, 0)) :=
 h q _ hq (fun c f e => by injection e with _ e3; exact h1 e3) (fun c f e => by injection e with _ e3; exact h2 e3)
theorem qDm.map {W W' : World} (h : qDm W W') {q : Nat} {es : Array MapEntry} {ck : Nat} (hq : W.heap[q]? = some (.map es ck)) : W'.heap[q]? = some (.map es ck) :=
 h q _ hq (fun c f e => by cases e) (fun c f e => by cases e)
theorem qDm.row {W W' : World} (h : qDm W W') {base size n : Nat} {e : TypeId} {v : Value} {xs : List Value} (hr : W.ownsRow base e size v n xs) (h1 : e ≠ 143) (h2 : e ≠ 200) : W'.ownsRow base e size v n xs := by
 refine ⟨hr.1, ?_⟩
 rcases hr.2 with h5 | ⟨q, cap, cur, h5, h6, h7, h8⟩
 ·exact .inl h5
 ·exact .inr ⟨q, cap, cur, h5, h6, h.cells h7 h1 h2, h8⟩
theorem qDm.lbr {W W' : World} (h : qDm W W') {mb : Nat} {labs : List (List UInt8 × Nat)} (hl : LbR W mb labs) : LbR W' mb labs := by
 obtain ⟨D, ⟨es, ck, hb, F⟩, hd⟩ := hl
 exact ⟨D, ⟨es, ck, h.map hb, F⟩, hd⟩
theorem PoR.keep {W W' : World} (h : qDm W W') {gp mi : Nat} {q : Option (List UInt8 × Int)} (hp : PoR W gp mi q) : PoR W' gp mi q := by
 cases q with
 | none => exact ⟨h.cells hp.1 (by decide) (by decide), h.map hp.2⟩
 | some x =>
   obtain ⟨va, vc, b0, p1, p2⟩ := hp
   exact ⟨va, vc, b0, h.cells p1 (by decide) (by decide), h.row p2 (by decide) (by decide)⟩
section
variable {w W W' : World} {gu mb gp mi : Nat} {ln : Int} {labs : List (List UInt8 × Nat)} {its : List It} {q : Option (List UInt8 × Int)} {old : Option (Nat × Nat)}
theorem AlQ.move (h : AlQ w W gu mb gp mi ln labs its q old) {ln' : Int} {its' : List It} (hk : qDm W W') (hb : Below w.heap.size w W') (hu : ∀ nv, UR W (gu + 1) gu (.slice none 0 0) ln nv (.map (some mb)) (.pointer (some ⟨gp, 0, none⟩)) (.slice none 0 0) (.slice none 0 0) its -> UR W' (gu + 1) gu (.slice none 0 0) ln' nv (.map (some mb)) (.pointer (some ⟨gp, 0, none⟩)) (.slice none 0 0) (.slice none 0 0) its') : AlQ w W' gu mb gp mi ln' labs its' q old := by
 obtain ⟨nv, h1, h2⟩ := h.ur
 refine ⟨⟨hb, hk.cells h.bx.x0 (by decide) (by decide), hk.cells h.bx.x1 (by decide) (by decide)⟩, ⟨nv, hu nv h1, hk.row h2 (by decide) (by decide)⟩, hk.lbr h.lb, h.po.keep hk, fun g f e => ?_⟩
 obtain ⟨vv, mv, ho⟩ := h.od g f e
 exact ⟨vv, mv, hk.cells ho (by decide) (by decide)⟩
theorem AlQ.go (h : AlQ w W gu mb gp mi ln labs its q old) (hb : Below W.heap.size W W') : AlQ w W' gu mb gp mi ln labs its q old :=
 h.move (qDm.below hb) (h.bx.bel.trans (hb.mono h.bx.bel.size)) fun _ hu => hu.go hb
theorem AlQ.keep {its' : List It} (h : AlQ w W gu mb gp mi ln labs its q old) (hk : qDc W W') (hf : Fr gu (gu + 1) W W') (hge : w.heap.size + 2 <= gu) (hu : ∀ nv, UR W (gu + 1) gu (.slice none 0 0) ln nv (.map (some mb)) (.pointer (some ⟨gp, 0, none⟩)) (.slice none 0 0) (.slice none 0 0) its -> UR W' (gu + 1) gu (.slice none 0 0) ln nv (.map (some mb)) (.pointer (some ⟨gp, 0, none⟩)) (.slice none 0 0) (.slice none 0 0) its') : AlQ w W' gu mb gp mi ln labs its' q old :=
 h.move hk.2 (h.bx.bel.trans ⟨hf.os, hf.tape, hf.output, hf.size, fun i hi => hf.block i (by omega) (by omega)⟩) hu
theorem AlQ.line (h : AlQ w W gu mb gp mi ln labs its q old) (hge : w.heap.size + 2 <= gu) (p : Int) (o : Obj) : AlQ w ((W.setCell ⟨gu, 1, none⟩ (.int .i64 p)).alloc o) gu mb gp mi p labs its q old := by
 refine AlQ.go (W := W.setCell ⟨gu, 1, none⟩ (.int .i64 p)) ?_ (qD _ _)
 obtain ⟨nv, h1, h2⟩ := h.ur
 obtain ⟨iv, il, x1, _⟩ := id h1.its
 refine h.move (fun i o hi n1 _ => ?_) (h.bx.bel.setCell (p := ⟨gu, 1, none⟩) (by show w.heap.size <= gu; omega) _) (fun _ hn => hn.line p)
 rw [Below.heap_setCell _ _ _ _ (by show i ≠ gu; rintro rfl; rw [x1] at hi; injection hi with hi; exact n1 _ _ hi.symm)]
 exact hi
theorem qKy (i : Ins) (hi : i.Ok) (hA : qAH w) (hge : w.heap.size + 2 <= gu) (hits : its.length <= 100000) (X : World) (oa : Option Addr) (oc : Nat) (hX : AlQ w X gu mb gp mi ln labs its q old) (ho : OpsR X oa (i.ops.map OpK.opd)) :
  Calls Tryz.prog 95 #[.pointer (some ⟨gu, 0, none⟩), .string ⟨i.name.toArray⟩, .slice oa (i.ops.map OpK.opd).length oc] X fun r w' => r = .returned (.int .i64 0) /\ AlQ w w' gu mb gp mi ln labs (its ++ [i.it ln]) q old := by
 obtain ⟨nv, hu, _⟩ := hX.ur
 have hn : (ByteArray.mk i.name.toArray).toList ∉ dirs := by rw [ByteArray.toList_eq]; simpa using hi.name
 have hkd : ∀ o, o ∈ i.ops.map OpK.opd -> o.kd.data.toList.length = 1 := by
  intro o h
  obtain ⟨k, _, rfl⟩ := List.mem_map.1 h
  exact kd_one k
 have hnm : ∀ o, o ∈ i.ops.map OpK.opd -> o.kd.toList = kdN -> o.nm = ⟨#[]⟩ := by
  intro o h
  obtain ⟨k, _, rfl⟩ := List.mem_map.1 h
  exact kd_nm k
 have hlen : (i.ops.map OpK.opd).length <= 1000 := by have := hi.n; simp; omega
 refine qDu gu _ oa _ oc X _ hn ?_
 have hplain : (qAV (i.ops.map OpK.opd)).head? ≠ some 112 -> i.it ln = qAI ln i.fill.op i.fill.n i.fill.m i.fill.imm -> Calls Tryz.prog 136 #[.pointer (some ⟨gu, 0, none⟩), .string ⟨i.name.toArray⟩, .slice oa (i.ops.map OpK.opd).length oc] X fun r w' => r = .returned (.int .i64 0) /\ AlQ w w' gu mb gp mi ln labs (its ++ [i.it ln]) q old := by
  intro h1 h2
  rw [h2]
  refine (qG6 gu (gu + 1) _ nv _ _ _ _ ln its ⟨i.name.toArray⟩ (i.ops.map OpK.opd) oa oc i.op X hu (hA.isa.below hX.bx.bel hA.isa.sz) (hA.frm.below hX.bx.bel hA.frm.sz) ho hlen hkd hnm hi.pool h1 hi.found hi.op hi.right hits).mono ?_
  rintro r w' ⟨rfl, hu', hf, hk⟩
  refine ⟨rfl, hX.keep hk hf hge (fun nv' hn => ?_)⟩
  obtain rfl := hn.same hu
  exact hu'
 cases hops : i.ops with
 | nil => rw [hops] at hplain; exact hplain (by decide) (by simp [Ins.it, hops])
 | cons a r =>
   cases a with
   | name nm =>
     have h2 : i.it ln = qC5 ln i.fill.op i.fill.n i.fill.m i.fill.imm (.val nm 0) := by simp [Ins.it, hops]
     rw [h2, <- hops]
     refine (qJS gu (gu + 1) _ nv _ _ _ _ ln its ⟨i.name.toArray⟩ (i.ops.map OpK.opd) ⟨⟨#[112]⟩, 0, ⟨nm.toArray⟩, 0⟩ nm (by rw [hops]; rfl) rfl oa oc i.op X hu (hA.isa.below hX.bx.bel hA.isa.sz) (hA.frm.below hX.bx.bel hA.frm.sz) ho hlen hkd hnm hi.pool (by rw [hops]; simp [qAV, OpK.opd]) hi.found hi.op hi.right hits).mono ?_
     rintro r w' ⟨rfl, hu', hf, hk⟩
     refine ⟨rfl, hX.keep hk hf hge (fun nv' hn => ?_)⟩
     obtain rfl := hn.same hu
     exact hu'
   | reg t => rw [hops] at hplain; exact hplain (by simp [qAV, OpK.opd]) (by simp [Ins.it, hops])
   | neg t => rw [hops] at hplain; exact hplain (by simp [qAV, OpK.opd]) (by simp [Ins.it, hops])
   | num t => rw [hops] at hplain; exact hplain (by simp [qAV, OpK.opd]) (by simp [Ins.it, hops])
   | ind t => rw [hops] at hplain; exact hplain (by simp [qAV, OpK.opd]) (by simp [Ins.it, hops])
   | pool t => rw [hops] at hplain; exact hplain (by simp [qAV, OpK.opd]) (by simp [Ins.it, hops])
end
theorem qMG (w W : World) (gu mb gp mi : Nat) (v : Value) (ln : Int) (labs : List (List UInt8 × Nat)) (its : List It) (q : Option (List UInt8 × Int)) (old : Option (Nat × Nat)) (k : Lk) (ts : List Tk) (hts : labelled ts = false) (hlo : ∀ nm, k.lab = some nm -> nm.length <= maxLen /\ regU 1 nm < 0 /\ Xp.qO nm = true) (hA : qAH w) (hge : w.heap.size + 2 <= gu /\ w.heap.size + 2 <= mb) (hne : mi ≠ mb) (h : AlQ w W gu mb gp mi ln labs its q old) (hits : its.length <= 100000) (hll : labs.length <= 100000) (hfree : ∀ nm, k.lab = some nm -> qS nm labs = none)
  (hv : qK w v (match k.lab with | none => ts | some nm => wd nm :: sg 58 :: ts)) :
  Calls Tryz.prog 91 #[.pointer (some ⟨gu, 0, none⟩), v] W fun r w' => ∃ v', r = .returned (.tuple #[v', .int .i64 0]) /\ qK w v' ts /\ AlQ w w' gu mb gp mi ln (labs ++ k.labs its.length) its q old := by
 cases hl : k.lab with
 | none =>
   rw [hl] at hv
   have e2 : k.labs its.length = [] := by simp [Lk.labs, hl]
   rw [e2, List.append_nil]
   refine (qEd gu v _ W (hv.below h.bx.bel (Nat.le_refl _)) hts).mono ?_
   rintro r w' ⟨rfl, hb⟩
   exact ⟨v, rfl, hv, h.go hb⟩
 | some nm =>
   rw [hl] at hv
   have e2 : k.labs its.length = [(nm, its.length)] := by simp [Lk.labs, hl]
   rw [e2]
   obtain ⟨n1, n2, n3⟩ := hlo nm hl
   obtain ⟨nv, hu, hN⟩ := h.ur
   have hown : ∀ i, i <= gu -> some i ≠ nv.ownBlock := fun i hi e => by
    have := (hN.lt i e.symm).1
    omega
   obtain ⟨es0, ck0, hmb⟩ : ∃ es ck, W.heap[mb]? = some (.map es ck) := by obtain ⟨D, ⟨es, ck, hb, _⟩, _⟩ := h.lb; exact ⟨es, ck, hb⟩
   obtain ⟨iv, il, x1, _⟩ := id hu.its
   refine (qJW gu (gu + 1) mb ln nv _ _ _ its labs nm 0 0 ts v w W h.bx.bel (by omega) (by omega) hv hts hu hN h.lb (hfree nm hl) n1 (hA.gl.below h.bx.bel hA.gl.sz) n2 n3 hits hll).mono ?_
   rintro r w' ⟨v', nv', rfl, hv', hB, hu', hn', hl', hc⟩
   have key : ∀ {i : Nat} {c : Array Value} {t : TypeId}, W.heap[i]? = some (.cells c t (0, 0)) -> t ≠ 143 -> t ≠ 9 -> w'.heap[i]? = some (.cells c t (0, 0)) := fun {i c t} hi h1 h2 => by
    rw [hc.block _ (qC hi) (by rintro rfl; rw [x1] at hi; injection hi with hi; injection hi with _ e2; exact h1 e2.symm) (by rintro rfl; rw [hmb] at hi; cases hi) (qAq hN hi h2)]
    exact hi
   have keyr : ∀ {base size n : Nat} {e : TypeId} {v : Value} {xs : List Value}, W.ownsRow base e size v n xs -> e ≠ 143 -> e ≠ 9 -> w'.ownsRow base e size v n xs := fun {base size n e v xs} hr h1 h2 => by
    refine ⟨hr.1, ?_⟩
    rcases hr.2 with h5 | ⟨q, cap, cur, h5, h6, h7, h8⟩
    ·exact .inl h5
    ·exact .inr ⟨q, cap, cur, h5, h6, key h7 h1 h2, h8⟩
   refine ⟨v', rfl, hv', ⟨⟨hB, ?_, ?_⟩, ⟨nv', hu', by rw [List.length_append]; exact hn'⟩, hl', ?_, ?_⟩⟩
   ·rw [hc.block _ (qC h.bx.x0) (by omega) (by omega) (hown _ (by omega))]; exact h.bx.x0
   ·rw [hc.block _ (qC h.bx.x1) (by omega) (by omega) (hown _ (by omega))]; exact h.bx.x1
   ·have hp := h.po
    cases q with
    | none =>
      refine ⟨key hp.1 (by decide) (by decide), ?_⟩
      rw [hc.block _ (qC hp.2) (by intro e; have hm := hp.2; rw [e, x1] at hm; cases hm) hne (qC3 hN hp.2)]
      exact hp.2
    | some x =>
      obtain ⟨va, vc, b0, p1, p2⟩ := hp
      exact ⟨va, vc, b0, key p1 (by decide) (by decide), keyr p2 (by decide) (by decide)⟩
   ·intro g f e
    obtain ⟨vv, mv, ho⟩ := h.od g f e
    exact ⟨vv, mv, key ho (by decide) (by decide)⟩
theorem qFS (w W : World) (gu mb gp mi : Nat) (v : Value) (ln : Int) (labs : List (List UInt8 × Nat)) (its : List It) (q : Option (List UInt8 × Int)) (old : Option (Nat × Nat)) (k : Lk) (hk : k.Ok) (hA : qAH w) (hge : w.heap.size + 2 <= gu /\ w.heap.size + 2 <= mb) (hne : mi ≠ mb) (h : AlQ w W gu mb gp mi ln labs its q old) (hits : its.length <= 100000) (hll : labs.length <= 100000) (hfree : ∀ nm, k.lab = some nm -> qS nm labs = none) (hv : qK w v k.toks) :
  Calls Tryz.prog 73 #[.pointer (some ⟨gu, 0, none⟩), v] W fun r w' => r = .returned (.int .i64 0) /\ AlQ w w' gu mb gp mi ln (labs ++ k.labs its.length) (its ++ [k.ins.it ln]) q old := by
 obtain ⟨hio, hlo⟩ := hk
 refine qIm gu v 0 ⟨k.ins.name.toArray⟩ (qBd k.ins.ops) (k.ins.ops.map OpK.opd) w W (fun X => AlQ w X gu mb gp mi ln (labs ++ k.labs its.length) its q old) _ ?_ (fun A B h1 h2 => h1.go h2) (fun X hX => hX.bx.bel) ?_ ?_ (by obtain ⟨a, b, e, _⟩ := hv; exact ⟨_, _, _, e⟩)
 ·exact qMG w W gu mb gp mi v ln labs its q old k k.ins.toks hio.lab hlo hA hge hne h hits hll hfree hv
 ·intro X v2 hX hv2
  obtain ⟨nv, hu, _⟩ := hX.ur
  exact qLf k.ins.ops hio.ops hio.n gu v2 X (KL.below hA.ex hX.bx.bel) (hA.gl.below hX.bx.bel hA.gl.sz) (hv2.below hX.bx.bel (Nat.le_refl _)) hu.cell0
 ·intro X oa oc hX ho
  exact qKy k.ins hio hA hge.1 hits X oa oc hX ho
def movlL : List UInt8 := [109, 111, 118, 46, 108]
def qA0 (nm rg : List UInt8) : List Tk := wd movlL :: qBd [.pool nm, .reg rg]
section
variable (w W : World) (gu mb gp mi : Nat) (v : Value) (ln : Int) (labs : List (List UInt8 × Nat)) (its : List It) (old : Option (Nat × Nat))
theorem qJe (nm rg : List UInt8) (hnm : Xp.qO nm = true) (hrg : 0 <= regU 1 rg) (hA : qAH w) (hge : w.heap.size + 2 <= gu /\ w.heap.size + 2 <= mb /\ w.heap.size + 2 <= gp /\ w.heap.size + 2 <= mi) (hne : mi ≠ mb) (h : AlQ w W gu mb gp mi ln labs its none old) (hold : ∀ g f, old = some (g, f) -> g ≠ gp) (hits : its.length <= 100000) (hlab : labelled (qA0 nm rg) = false) (hv : qK w v (qA0 nm rg)) :
  Calls Tryz.prog 73 #[.pointer (some ⟨gu, 0, none⟩), v] W fun r w' => r = .returned (.int .i64 0) /\ AlQ w w' gu mb gp mi ln labs (its ++ [qC5 ln 24 (regU 1 rg) 0 0 (.slot gp 0)]) (some (nm, 0)) old := by
 obtain ⟨g1, g2, g3, g4⟩ := hge
 refine qIm gu v 0 ⟨movlL.toArray⟩ (qBd [.pool nm, .reg rg]) ([OpK.pool nm, .reg rg].map OpK.opd) w W (fun X => AlQ w X gu mb gp mi ln labs its none old) _ ?_ (fun A B h1 h2 => h1.go h2) (fun X hX => hX.bx.bel) ?_ ?_ (by obtain ⟨a, b, e, _⟩ := hv; exact ⟨_, _, _, e⟩)
 ·refine (qEd gu v _ W (hv.below h.bx.bel (Nat.le_refl _)) hlab).mono ?_
  rintro r w' ⟨rfl, hb⟩
  exact ⟨v, rfl, hv, h.go hb⟩
 ·intro X v2 hX hv2
  obtain ⟨nv, hu, _⟩ := hX.ur
  exact qLf [.pool nm, .reg rg] (by intro k hk; simp at hk; rcases hk with rfl | rfl; exact hnm; exact hrg) (by simp) gu v2 X (KL.below hA.ex hX.bx.bel) (hA.gl.below hX.bx.bel hA.gl.sz) (hv2.below hX.bx.bel (Nat.le_refl _)) hu.cell0
 ·intro X oa oc hX ho
  obtain ⟨nv, hu, hn⟩ := hX.ur
  have hp := hX.po
  have hsz := hA.isa.sz
  refine qDu gu _ oa 2 oc X _ (by rw [ByteArray.toList_eq]; decide) ?_
  refine (qJp gu (gu + 1) gp mi _ nv _ _ _ ln 0 its nm 0 (regU 1 rg) oa oc X hu (hA.isa.below hX.bx.bel hA.isa.sz) ho hp.1 hp.2 hits (by omega) (by omega)).mono ?_
  rintro r w' ⟨rfl, hu', ⟨va, vc, p1, p2⟩, ⟨o1, o2, o3, o4⟩, hsz', hk⟩
  have hBX := hX.bx.bel
  have nc : ∀ {c : Array Value} {t : TypeId}, t ≠ 143 -> ∀ c' f', Obj.cells c t (0, 0) ≠ .cells c' 143 f' := fun ht c' f' e => by injection e with _ e3; exact ht e3
  have ni : ∀ {c : Array Value} {t : TypeId}, t ≠ 200 -> ∀ c' f', Obj.cells c t (0, 0) ≠ .cells c' 200 f' := fun ht c' f' e => by injection e with _ e3; exact ht e3
  obtain ⟨iv, il, x1, x2, _⟩ := id hu.its
  refine ⟨rfl, ⟨⟨⟨o1.trans hBX.os, o2.trans hBX.tape, o3.trans hBX.output, Nat.le_trans hBX.size hsz', fun i hi => ?_⟩, hk _ _ hX.bx.x0 (nc (by decide)) (ni (by decide)) (by omega) (by omega), hk _ _ hX.bx.x1 (nc (by decide)) (ni (by decide)) (by omega) (by omega)⟩, ⟨nv, hu', ?_⟩, ?_, ?_, ?_⟩⟩
  ·rw [o4 i (by omega) (by omega) (by omega) (by omega)]
   exact hBX.block i hi
  ·refine ⟨hn.1, ?_⟩
   rcases hn.2 with h5 | ⟨q, cap, cur, h5, h6, h7, h8⟩
   ·exact .inl h5
   ·exact .inr ⟨q, cap, cur, h5, h6, hk _ _ h7 (nc (by decide)) (ni (by decide)) (by rintro rfl; rw [hp.1] at h7; injection h7 with h7; injection h7 with _ e3; exact absurd e3 (by decide)) (by rintro rfl; rw [hp.2] at h7; cases h7), h8⟩
  ·obtain ⟨D, ⟨es, ck, hb, F⟩, hd⟩ := hX.lb
   exact ⟨D, ⟨es, ck, hk _ _ hb (by intro c f e; cases e) (by intro c f e; cases e) (by rintro rfl; rw [hp.1] at hb; cases hb) (Ne.symm hne), F⟩, hd⟩
  ·exact ⟨va, vc, _, p1, p2⟩
  ·intro g f e
   obtain ⟨vv, mv, hod⟩ := hX.od g f e
   exact ⟨vv, mv, hk _ _ hod (nc (by decide)) (ni (by decide)) (hold g f e) (by rintro rfl; rw [hp.2] at hod; cases hod)⟩
end
section
variable (w W : World) (gu mb gp mi : Nat) (v : Value) (ln : Int) (labs : List (List UInt8 × Nat)) (its : List It)
theorem pool_end (nm : List UInt8) (n : Int) (hge : w.heap.size + 2 <= gu /\ w.heap.size + 2 <= mb /\ w.heap.size + 2 <= gp /\ w.heap.size + 2 <= mi) (h : AlQ w W gu mb gp mi ln labs its (some (nm, n)) none) (hits : its.length <= 90000) :
  Calls Tryz.prog 74 #[.pointer (some ⟨gu, 0, none⟩)] W fun r w' => r = .returned (.tuple #[]) /\ ∃ gp' mi', AlQ w w' gu mb gp' mi' ln labs (its ++ [qFL ln 4, numI ln 4 nm n]) none (some (gp, its.length + 1)) /\ (w.heap.size + 2 <= gp' /\ w.heap.size + 2 <= mi') /\ mi' ≠ mb := by
 obtain ⟨g1, g2, g3, g4⟩ := hge
 obtain ⟨nv, hu, hn⟩ := h.ur
 obtain ⟨va, vc, b0, p1, p2⟩ := h.po
 obtain ⟨es0, ck0, hmb⟩ : ∃ es ck, W.heap[mb]? = some (.map es ck) := by obtain ⟨D, ⟨es, ck, hb, _⟩, _⟩ := h.lb; exact ⟨es, ck, hb⟩
 refine (qHI gu (gu + 1) gp mi _ nv _ _ _ ln 0 its nm n va vc b0 W hu p1 p2 hits).mono ?_
 rintro r w' ⟨rfl, ⟨gp', mq, hu', ⟨hq0, hq1⟩, hq2, hq3⟩, hp', ⟨o1, o2, o3, o4⟩, hsz, hk⟩
 have hBX := h.bx.bel
 have hgu := qC p1
 have hmbl := qC hmb
 obtain ⟨iv, il, x1, _⟩ := id hu.its
 have hgul := qC x1
 have nc : ∀ {c : Array Value} {t : TypeId}, t ≠ 143 -> ∀ c' f', Obj.cells c t (0, 0) ≠ .cells c' 143 f' := fun ht c' f' e => by injection e with _ e3; exact ht e3
 have ni : ∀ {c : Array Value} {t : TypeId}, t ≠ 200 -> ∀ c' f', Obj.cells c t (0, 0) ≠ .cells c' 200 f' := fun ht c' f' e => by injection e with _ e3; exact ht e3
 refine ⟨rfl, gp', mq, ⟨⟨⟨o1.trans hBX.os, o2.trans hBX.tape, o3.trans hBX.output, Nat.le_trans hBX.size hsz, fun i hi => ?_⟩, hk _ _ h.bx.x0 (nc (by decide)) (ni (by decide)) (by omega), hk _ _ h.bx.x1 (nc (by decide)) (ni (by decide)) (by omega)⟩, ⟨nv, hu', ?_⟩, ?_, ⟨hq2, hq3⟩, ?_⟩, ⟨by omega, by omega⟩, by omega⟩
 ·rw [o4 i (by omega) (by omega) (by omega)]
  exact hBX.block i hi
 ·refine ⟨hn.1, ?_⟩
  rcases hn.2 with h5 | ⟨q, cap, cur, h5, h6, h7, h8⟩
  ·exact .inl h5
  ·exact .inr ⟨q, cap, cur, h5, h6, hk _ _ h7 (nc (by decide)) (ni (by decide)) (by rintro rfl; rw [p1] at h7; injection h7 with h7; injection h7 with _ e3; exact absurd e3 (by decide)), h8⟩
 ·obtain ⟨D, ⟨es, ck, hb, F⟩, hd⟩ := h.lb
  exact ⟨D, ⟨es, ck, hk _ _ hb (by intro c f e; cases e) (by intro c f e; cases e) (by rintro rfl; rw [p1] at hb; cases hb), F⟩, hd⟩
 ·intro g f e
  injection e with e
  injection e with e1 e2
  subst e1 e2
  exact ⟨_, _, hp'⟩
end
structure FinE (W : World) (labs : List (List UInt8 × Nat)) (firsts : Nat -> Nat) (its : List It) (ob : Ob) : Prop where
 ok : ∀ i, i ∈ its -> qEk W firsts its.length i
 n : its.length <= 1000
 lbk : ∀ nm k, qS nm labs = some k -> k <= its.length
 lbs : ∀ j (h : j < labs.length), qS labs[j].1 labs = some labs[j].2 /\ labs[j].1.length <= maxLen
 ll : labs.length <= 100000
 last : (qAA 0 its).getD its.length 0 <= 8000
 wr : qBQ ⟨labs, its, firsts⟩ (qAA 0 its) 0 [] [] its = .ok (ob.code, ob.rels)
 sy : ob.syms = qCT ⟨labs, its, firsts⟩ (qAA 0 its)
 cl : ob.code.length <= 100000 /\ ob.rels.length <= 100000
def RdyE (w W' : World) (gu : Nat) (ob : Ob) : Prop :=
 ∃ W mb labs firsts its, Told w W W' gu mb labs firsts its ob.code ob.rels /\ ob.syms = qCT ⟨labs, its, firsts⟩ (qAA 0 its)
theorem qIY (w W : World) (gu mb gp mi : Nat) (ln : Int) (labs : List (List UInt8 × Nat)) (firsts : Nat -> Nat) (its : List It) (q : Option (List UInt8 × Int)) (old : Option (Nat × Nat)) (ob : Ob) (hA : qAH w) (hge : w.heap.size + 2 <= gu) (hn : AlQ w W gu mb gp mi ln labs its q old) (hf : FinE W labs firsts its ob) :
  Calls Tryz.prog 75 #[.pointer (some ⟨gu, 0, none⟩)] W fun r w' => r = .returned (.int .i64 0) /\ RdyE w w' gu ob := by
 have hsz := hA.isa.sz
 obtain ⟨nv, hu, hnv⟩ := hn.ur
 have he : Ended w W gu mb labs firsts its ob.code ob.rels := ⟨hn.bx, hge, ⟨ln, nv, _, hu, hnv⟩, hn.lb, hA.isa.below hn.bx.bel hA.isa.sz, by omega, hf.n, hf.ok, hf.last, hf.wr, hf.cl, hf.lbk, hf.lbs, hf.ll⟩
 refine (lay_end he).mono ?_
 rintro r W' ⟨rfl, ht⟩
 exact ⟨rfl, W, mb, labs, firsts, its, ht, hf.sy⟩
theorem qEu (w W' : World) (gu : Nat) (ob : Ob) (hr : RdyE w W' gu ob) :
  Calls Tryz.prog 76 #[.pointer (some ⟨gu, 0, none⟩)] W' fun r w' => ∃ ca cl cc sa sl sc qa ql qc, r = .returned (.tuple #[.agg #[.slice ca cl cc, .slice sa sl sc, .slice qa ql qc], .agg #[.int .i64 0, .int .i64 0]]) /\ qBg w' (.slice ca cl cc) (.slice sa sl sc) (.slice qa ql qc) ob /\ Bx w w' := by
 obtain ⟨W, mb, labs, firsts, its, ht, hs⟩ := hr
 refine (qLl ht).mono ?_
 rintro r w' ⟨ca, cl, cc, sa, sl, sc, qa, ql, qc, rfl, ho, hb⟩
 rw [<- hs] at ho
 exact ⟨ca, cl, cc, sa, sl, sc, qa, ql, qc, rfl, ho, hb⟩
theorem qE2 (w W1 : World) (gu mb gp mi : Nat) (ks : List (Int × Lk)) (ob : Ob) (hA : qAH w) (h : qHj w W1 gu mb gp mi) (hn : ks.length <= 1000) (hok : ∀ a, a ∈ ks -> a.2.Ok) (hfree : ∀ k (hk : k < ks.length) nm, ks[k].2.lab = some nm -> qS nm (qAp 0 (ks.take k)) = none) (hfin : ∀ W, FinE W (qAp 0 ks) (fun _ => 0) (itsG ks) ob) : Makes w gu (ks.map fun a => (a.1, a.2.toks)) ob W1 := by
 have hge := h.ge
 refine ⟨⟨fun k W => ∃ ln, AlQ w W gu mb gp mi ln (qAp 0 (ks.take k)) (itsG (ks.take k)) none none, fun W => ∃ ln, AlQ w W gu mb gp mi ln (qAp 0 ks) (itsG ks) none none, fun W' => RdyE w W' gu ob, ⟨0, AlQ.of h.al⟩, ?_, ?_, ?_, ?_, ?_⟩⟩
 ·rintro k W ⟨ln, hn⟩
  obtain ⟨nv, hu, _⟩ := hn.ur
  obtain ⟨_, _, x1, _⟩ := hu.its
  exact ⟨hn.bx, _, x1, ln, rfl⟩
 ·rintro k hk W v ⟨ln, hn'⟩ hv
  have hk' : k < ks.length := by simpa using hk
  simp only [List.getElem_map] at hv ⊢
  have hli : (itsG (ks.take k)).length = k := by simp [itsG]; omega
  have hll := qDJ (ks.take k) 0
  rw [List.length_take] at hll
  refine (qFS w _ gu mb gp mi v ks[k].1 (qAp 0 (ks.take k)) (itsG (ks.take k)) none none ks[k].2 (hok _ (List.getElem_mem _)) hA ⟨hge.1, hge.2.1⟩ h.ne (hn'.line hge.1 _ _) (by omega) (by omega) (hfree k hk') hv).mono ?_
  rintro r w' ⟨rfl, hr⟩
  refine ⟨rfl, ks[k].1, ?_⟩
  have e1 : qAp 0 (ks.take (k + 1)) = qAp 0 (ks.take k) ++ ks[k].2.labs (itsG (ks.take k)).length := by
   rw [List.take_succ_eq_append_getElem hk', qDh, hli, Nat.zero_add, List.length_take, Nat.min_eq_left (by omega)]
  have e2 : itsG (ks.take (k + 1)) = itsG (ks.take k) ++ [ks[k].2.ins.it ks[k].1] := by
   rw [List.take_succ_eq_append_getElem hk']
   simp only [itsG, List.map_append, List.map_cons, List.map_nil]
  rw [e1, e2]
  exact hr
 ·rintro W ⟨ln, hn'⟩
  rw [List.length_map, List.take_length] at hn'
  have hp := hn'.po
  obtain ⟨nv, hu, _⟩ := hn'.ur
  obtain ⟨_, _, x1, _⟩ := hu.its
  refine (qGM gu gp none 0 W (qB x1 rfl) (qB hp.1 rfl)).mono ?_
  rintro r w' ⟨rfl, rfl⟩
  exact ⟨rfl, ln, hn'⟩
 ·rintro W ⟨ln, hn'⟩
  exact qIY w W gu mb gp mi ln (qAp 0 ks) (fun _ => 0) (itsG ks) none none ob hA hge.1 hn' (hfin W)
 ·rintro W' hr
  exact qEu w W' gu ob hr
theorem qA9 (W : World) (f : Nat -> Nat) (n : Nat) (ln op nn m imm : Int) : qEk W f n (qAI ln op nn m imm) := ⟨trivial, ⟨by show (0 : Int) <= 2; decide, by show (2 : Int) <= 6; decide, by show (1 : Int) <= 1; decide, by show (1 : Int) <= 16; decide⟩, ⟨by show (1 : Int) <= 2; decide, by show (2 : Int) <= 16; decide⟩, by show (2 : Int) <= 4; decide, trivial⟩
theorem qLw (W : World) : FinE W (qAp 0 qDG) (fun _ => 0) (itsG qDG) ⟨qB5 qFY, [], []⟩ := by
 have hlb : qAp 0 qDG = [] := rfl
 rw [five_its, hlb]
 have hall : ∀ i, i ∈ [qAI 1 3 0 0 5, qAI 2 27 0 0 1, qAI 3 27 0 0 0] -> qEk W (fun _ => 0) 3 i := by
  intro i hi
  simp only [List.mem_cons, List.not_mem_nil, or_false] at hi
  rcases hi with rfl | rfl | rfl <;> exact qA9 _ _ _ _ _ _ _ _
 exact ⟨fun i hi => hall i hi, by simp, by simp [qS], by simp, by simp, by decide +kernel, by kernel_rfl, rfl, ⟨by decide +kernel, by simp⟩⟩
theorem qI7 (v : Value) (w : World) (hA : qAH w) (hv : Sc.qA7 w v qJu) :
  Calls Tryz.prog 25 #[v] w fun e w' => (∃ ca cl cc sa sl sc qa ql qc, e = .returned (.tuple #[.agg #[.slice ca cl cc, .slice sa sl sc, .slice qa ql qc], .agg #[.int .i64 0, .int .i64 0]]) /\ qBg w' (.slice ca cl cc) (.slice sa sl sc) (.slice qa ql qc) ⟨qB5 qFY, [], []⟩) /\ Below w.heap.size w w' := by
 refine qIK v qJu qIV _ w hv five_src (by decide) ?_ hA.gl ?_
 ·intro x hx
  have hin : x = ⟨1, qMF⟩ \/ x = ⟨2, tr1T⟩ \/ x = ⟨3, tr0T⟩ := by simpa [qIV, qL5, qCv] using hx
  rcases hin with rfl | rfl | rfl <;> exact ⟨by simp [qMF, tr1T, tr0T], ph_of _ _ (by decide)⟩
 ·intro u W hbw hl
  have hAW : qAH W := ⟨hA.isa.below hbw hA.isa.sz, hA.frm.below hbw hA.frm.sz, KL.below hA.ex hbw, hA.gl.below hbw hA.gl.sz⟩
  have e : qIV.map lnOf = qDG.map fun a => (a.1, a.2.toks) := rfl
  rw [e] at hl
  refine qG0 u _ _ W hl (by decide) (fun gu mb gp mi W1 h => qE2 W W1 gu mb gp mi qDG _ hAW h (by decide) ?_ (fun k hk nm hnm => ?_) qLw)
  rotate_left
  ·have h3 : k = 0 \/ k = 1 \/ k = 2 := by simp [qDG] at hk; omega
   rcases h3 with rfl | rfl | rfl <;> rfl
  intro a ha
  have hr0 : 0 <= regU 1 r0' := by rw [qDQ]; decide
  simp only [qDG, List.mem_cons, List.not_mem_nil, or_false] at ha
  rcases ha with rfl | rfl | rfl
  ·exact ⟨qHb 5 r0' hr0 (by rw [qDQ]; kernel_rfl), by simp⟩
  ·exact ⟨qFC 1 (by kernel_rfl), by simp⟩
  ·exact ⟨qFC 0 (by kernel_rfl), by simp⟩
def askI (gp : Nat) (pl : Int) (rg : List UInt8) : It := qC5 pl 24 (regU 1 rg) 0 0 (.slot gp 0)
def midI (gp : Nat) (k1 k2 : List (Int × Lk)) (pl : Int) (rg : List UInt8) : List It := itsG k1 ++ askI gp pl rg :: itsG k2
def endI (gp : Nat) (k1 k2 : List (Int × Lk)) (pl ln : Int) (nm rg : List UInt8) : List It := midI gp k1 k2 pl rg ++ [qFL ln 4, numI ln 4 nm 0]
theorem AlQ.has2 {w W : World} {gu mb gp mi : Nat} {ln : Int} {labs : List (List UInt8 × Nat)} {its : List It} {q : Option (List UInt8 × Int)} {old : Option (Nat × Nat)} (h : AlQ w W gu mb gp mi ln labs its q old) : Bx w W /\ ∃ c, W.heap[gu]? = some (.cells c 143 (0, 0)) /\ (∃ z, c[1]? = some (.int .i64 z)) := by
 obtain ⟨nv, hu, _⟩ := h.ur
 obtain ⟨_, _, x1, _⟩ := hu.its
 exact ⟨h.bx, _, x1, ln, rfl⟩
def StP (w : World) (gu mb gp mi : Nat) (k1 k2 : List (Int × Lk)) (pl : Int) (nm rg : List UInt8) (k : Nat) (W : World) : Prop :=
 (k <= k1.length /\ ∃ ln, AlQ w W gu mb gp mi ln (qAp 0 (k1.take k)) (itsG (k1.take k)) none none) \/
 (∃ j, k = k1.length + 1 + j /\ j <= k2.length /\ ∃ ln, AlQ w W gu mb gp mi ln (qAp 0 k1) (midI gp k1 (k2.take j) pl rg) (some (nm, 0)) none)
theorem qIe (gp : Nat) (k1 k2 : List (Int × Lk)) (pl : Int) (rg : List UInt8) : (midI gp k1 k2 pl rg).length = k1.length + 1 + k2.length := by simp [midI, itsG]; omega
theorem qDb (w W1 : World) (gu mb gp mi : Nat) (k1 k2 : List (Int × Lk)) (pl : Int) (nm rg : List UInt8) (ob : Ob) (hA : qAH w) (h : qHj w W1 gu mb gp mi) (hn1 : k1.length <= 1000) (hn2 : k2.length <= 1000) (hok1 : ∀ a, a ∈ k1 -> a.2.Ok) (hok2 : ∀ a, a ∈ k2 -> a.2.Ok) (hno : ∀ a, a ∈ k2 -> a.2.lab = none) (hfree : ∀ k (hk : k < k1.length) nm, k1[k].2.lab = some nm -> qS nm (qAp 0 (k1.take k)) = none) (hnm : Xp.qO nm = true) (hrg : 0 <= regU 1 rg) (hlab : labelled (qA0 nm rg) = false)
  (hfin : ∀ W ln gp' mi', AlQ w W gu mb gp' mi' ln (qAp 0 k1) (endI gp k1 k2 pl ln nm rg) none (some (gp, k1.length + 1 + k2.length + 1)) -> FinE W (qAp 0 k1) (fun _ => k1.length + 1 + k2.length + 1) (endI gp k1 k2 pl ln nm rg) ob) :
  Makes w gu (k1.map (fun a => (a.1, a.2.toks)) ++ (pl, qA0 nm rg) :: k2.map (fun a => (a.1, a.2.toks))) ob W1 := by
 have hge := h.ge
 have hsz := hA.isa.sz
 refine ⟨⟨StP w gu mb gp mi k1 k2 pl nm rg, fun W => ∃ ln gp' mi', AlQ w W gu mb gp' mi' ln (qAp 0 k1) (endI gp k1 k2 pl ln nm rg) none (some (gp, k1.length + 1 + k2.length + 1)), fun W' => RdyE w W' gu ob, .inl ⟨Nat.zero_le _, 0, AlQ.of h.al⟩, ?_, ?_, ?_, ?_, ?_⟩⟩
 ·rintro k W (⟨_, ln, hn⟩ | ⟨j, _, _, ln, hn⟩)
  ·exact hn.has2
  ·exact hn.has2
 ·rintro k hk W v hST hv
  rcases hST with ⟨hk1, ln, hn⟩ | ⟨j, rfl, hj, ln, hn⟩
  ·by_cases hlt : k < k1.length
   ·have e : (k1.map (fun a => (a.1, a.2.toks)) ++ (pl, qA0 nm rg) :: k2.map (fun a => (a.1, a.2.toks)))[k] = (k1[k].1, k1[k].2.toks) := by
     rw [List.getElem_append_left (by simpa using hlt), List.getElem_map]
    rw [e] at hv ⊢
    have hli : (itsG (k1.take k)).length = k := by simp [itsG]; omega
    have hll := qDJ (k1.take k) 0
    rw [List.length_take] at hll
    refine (qFS w _ gu mb gp mi v k1[k].1 (qAp 0 (k1.take k)) (itsG (k1.take k)) none none k1[k].2 (hok1 _ (List.getElem_mem _)) hA ⟨hge.1, hge.2.1⟩ h.ne (hn.line hge.1 _ _) (by omega) (by omega) (hfree k hlt) hv).mono ?_
    rintro r w' ⟨rfl, hr⟩
    refine ⟨rfl, .inl ⟨hlt, k1[k].1, ?_⟩⟩
    have e1 : qAp 0 (k1.take (k + 1)) = qAp 0 (k1.take k) ++ k1[k].2.labs (itsG (k1.take k)).length := by
     rw [List.take_succ_eq_append_getElem hlt, qDh, hli, Nat.zero_add, List.length_take, Nat.min_eq_left (by omega)]
    have e2 : itsG (k1.take (k + 1)) = itsG (k1.take k) ++ [k1[k].2.ins.it k1[k].1] := by
     rw [List.take_succ_eq_append_getElem hlt]
     simp only [itsG, List.map_append, List.map_cons, List.map_nil]
    rw [e1, e2]
    exact hr
   ·obtain rfl : k = k1.length := by omega
    have e : (k1.map (fun a => (a.1, a.2.toks)) ++ (pl, qA0 nm rg) :: k2.map (fun a => (a.1, a.2.toks)))[k1.length] = (pl, qA0 nm rg) := by
     rw [List.getElem_append_right (by simp)]
     simp
    rw [e] at hv ⊢
    rw [List.take_length] at hn
    refine (qJe w _ gu mb gp mi v pl _ _ none nm rg hnm hrg hA hge h.ne (hn.line hge.1 pl _) (fun _ _ e => by cases e) (by simp [itsG]; omega) hlab hv).mono ?_
    rintro r w' ⟨rfl, hr⟩
    refine ⟨rfl, .inr ⟨0, rfl, Nat.zero_le _, pl, ?_⟩⟩
    have e1 : midI gp k1 (k2.take 0) pl rg = itsG k1 ++ [qC5 pl 24 (regU 1 rg) 0 0 (.slot gp 0)] := by simp [midI, itsG, askI]
    rw [e1]
    exact hr
  ·have hj' : j < k2.length := by simp at hk; omega
   have e : (k1.map (fun a => (a.1, a.2.toks)) ++ (pl, qA0 nm rg) :: k2.map (fun a => (a.1, a.2.toks)))[k1.length + 1 + j] = (k2[j].1, k2[j].2.toks) := by
    rw [List.getElem_append_right (by simp; omega)]
    have e0 : k1.length + 1 + j - (k1.map (fun a => (a.1, a.2.toks))).length = j + 1 := by simp; omega
    simp only [e0, List.getElem_cons_succ, List.getElem_map]
   rw [e] at hv ⊢
   have hli := qIe gp k1 (k2.take j) pl rg
   rw [List.length_take] at hli
   have hll := qDJ k1 0
   have hlo := hno _ (List.getElem_mem hj')
   refine (qFS w _ gu mb gp mi v k2[j].1 _ _ (some (nm, 0)) none k2[j].2 (hok2 _ (List.getElem_mem _)) hA ⟨hge.1, hge.2.1⟩ h.ne (hn.line hge.1 _ _) (by omega) (by omega) (fun nm' h' => by rw [hlo] at h'; cases h') hv).mono ?_
   rintro r w' ⟨rfl, hr⟩
   refine ⟨rfl, .inr ⟨j + 1, by omega, hj', k2[j].1, ?_⟩⟩
   have e1 : qAp 0 k1 ++ k2[j].2.labs (midI gp k1 (k2.take j) pl rg).length = qAp 0 k1 := by simp [Lk.labs, hlo]
   have e2 : midI gp k1 (k2.take (j + 1)) pl rg = midI gp k1 (k2.take j) pl rg ++ [k2[j].2.ins.it k2[j].1] := by
    rw [List.take_succ_eq_append_getElem hj']
    simp only [midI, itsG, List.map_append, List.map_cons, List.map_nil, List.append_assoc, List.cons_append]
   rw [e1] at hr
   rw [e2]
   exact hr
 ·rintro W hST
  have hl : (k1.map (fun a => (a.1, a.2.toks)) ++ (pl, qA0 nm rg) :: k2.map (fun a => (a.1, a.2.toks))).length = k1.length + 1 + k2.length := by simp; omega
  rw [hl] at hST
  rcases hST with ⟨e, _⟩ | ⟨j, e, hj, ln, hn⟩
  ·omega
  ·obtain rfl : j = k2.length := by omega
   rw [List.take_length] at hn
   have hli := qIe gp k1 k2 pl rg
   refine (pool_end w W gu mb gp mi ln _ _ nm 0 hge hn (by omega)).mono ?_
   rintro r w' ⟨rfl, gp', mi', hr, _, _⟩
   refine ⟨rfl, ln, gp', mi', ?_⟩
   rw [hli] at hr
   exact hr
 ·rintro W ⟨ln, gp', mi', hn⟩
  exact qIY w W gu mb gp' mi' ln _ _ _ none _ ob hA hge.1 hn (hfin W ln gp' mi' hn)
 ·rintro W' hr
  exact qEu w W' gu ob hr
end Go.Proofs.YtfmljailbebfgaaGreatDoor
