import Derived.Test.YtgjmbjahgcndnaaGreatDoorUdG
namespace Go.Proofs.YtgjmbjahgcndnaaGreatDoor
open Go.RowKit
theorem qFm (w : World) : Calls Tryz.prog 70 #[] w fun r w' => r = .returned (.pointer (some ⟨w.heap.size + 1, 0, none⟩)) /\ w' = (w.alloc (.map #[] 0)).alloc (.cells #[.int .i64 0, .slice none 0 0, .map (some w.heap.size)] 184) := by
 have hmm : ∀ w, (Instr.makeMap 181 none).run Tryz.prog w = .ok (.map (some w.heap.size)) (w.alloc (.map #[] 0)) := fun w => rfl
 go_enter Tryz.func70, Tryz.ntmps70
 go_wp2_with fail
 go_returns
 exact ⟨rfl, rfl⟩
structure Bx (w W : World) : Prop where
 bel : Below w.heap.size w W
 x0 : W.heap[w.heap.size]? = some (.cells #[.slice none 0 0, .slice none 0 0, .slice none 0 0] 49 (0, 0))
 x1 : W.heap[w.heap.size + 1]? = some (.cells #[.int .i64 0, .int .i64 0] 36 (0, 0))
structure qLy (w W : World) (gu mb gp mi : Nat) : Prop where
 bx : Bx w W
 ur : UR W (gu + 1) gu (.slice none 0 0) 0 (.slice none 0 0) (.map (some mb)) (.pointer (some ⟨gp, 0, none⟩)) (.slice none 0 0) (.slice none 0 0) []
 mp : W.heap[mb]? = some (.map #[] 0)
 po : W.heap[gp]? = some (.cells #[.int .i64 0, .slice none 0 0, .map (some mi)] 184 (0, 0))
 mq : W.heap[mi]? = some (.map #[] 0)
 ge : w.heap.size + 2 <= gu /\ w.heap.size + 2 <= mb /\ w.heap.size + 2 <= gp /\ w.heap.size + 2 <= mi
 lt : mb < gu /\ gp < gu /\ mi < gu
 ne : mi ≠ mb
def qB1 (W : World) (c s q : Value) (o : Ob) : Prop := qg W c o.code /\ qAw W s o.syms /\ qDG W q o.rels
theorem qEr {w : World} {q i b j : Nat} {c : Array Value} {t : TypeId} {v x : Value} (h : w.heap[q]? = some (.cells c t (0, 0))) (hx : w.cell? ⟨b, j, none⟩ = some x) (hc : ∀ k : Nat, c[k]? ≠ some x) : b ≠ q /\ ∀ k, (w.setCell ⟨q, i, none⟩ v).cell? ⟨b, k, none⟩ = w.cell? ⟨b, k, none⟩ := by
 have hne : b ≠ q := by
  rintro rfl
  simp only [World.cell?, h] at hx
  exact hc j (by simpa using hx)
 refine ⟨hne, fun k => ?_⟩
 have hk : (w.setCell ⟨q, i, none⟩ v).heap[b]? = w.heap[b]? := Below.heap_setCell _ _ _ _ hne
 simp only [World.cell?, hk]
theorem qAw.set {w : World} {q i : Nat} {c : Array Value} {t : TypeId} {v x : Value} {l : List Sy} (ho : qAw w x l) (h : w.heap[q]? = some (.cells c t (0, 0))) (hc : ∀ (k : Nat) (y : ByteArray), c[k]? ≠ some (Value.string y)) : qAw (w.setCell ⟨q, i, none⟩ v) x l := by
 obtain ⟨ad, cap, rfl, hm, hl⟩ := ho
 refine ⟨ad, cap, rfl, hm, fun h0 => ?_⟩
 obtain ⟨b, o, rfl, hb, hcell⟩ := hl h0
 obtain ⟨_, hk⟩ := qEr (i := i) (v := v) h (hcell 0 h0).1 (fun k => hc k _)
 exact ⟨b, o, rfl, by simpa using hb, fun j hj => by rw [hk, hk]; exact hcell j hj⟩
theorem qDG.set {w : World} {q i : Nat} {c : Array Value} {t : TypeId} {v x : Value} {l : List Re} (ho : qDG w x l) (h : w.heap[q]? = some (.cells c t (0, 0))) (hc : ∀ (k : Nat) (y : ByteArray), c[k]? ≠ some (Value.string y)) : qDG (w.setCell ⟨q, i, none⟩ v) x l := by
 obtain ⟨ad, cap, rfl, hm, hl⟩ := ho
 refine ⟨ad, cap, rfl, hm, fun h0 => ?_⟩
 obtain ⟨b, o, rfl, hb, hcell⟩ := hl h0
 obtain ⟨_, hk⟩ := qEr (i := i) (v := v) h (hcell 0 h0).2.2.1 (fun k => hc k _)
 exact ⟨b, o, rfl, by simpa using hb, fun j hj => by rw [hk, hk, hk, hk]; exact hcell j hj⟩
theorem qB1.set {w : World} {q i : Nat} {c : Array Value} {t : TypeId} {v x y z : Value} {o : Ob} (ho : qB1 w x y z o) (h : w.heap[q]? = some (.cells c t (0, 0))) (hc : ∀ (k : Nat) (y : ByteArray), c[k]? ≠ some (Value.string y)) (hc8 : ∀ (j : Nat) (n : Int), c[j]? ≠ some (Value.int .u8 n)) : qB1 (w.setCell ⟨q, i, none⟩ v) x y z o :=
 ⟨ho.1.set h hc8, ho.2.1.set h hc, ho.2.2.set h hc⟩
theorem qJm (args : Array Value) (w : World) : (callFunc 205 args).run Tryz.prog w = .ok (.enter 205 args) w := by kernel_rfl
def EndOk (_ : World) (_ : Nat -> Nat) (_ : Nat) (i : It) : Prop :=
 NoFar i /\ qJp i /\ (1 <= i.align /\ i.align <= 16) /\ i.size <= 4 /\
 match i.gen with
 | .fill => False
 | .num _ _ => False
 | .plain _ _ _ _ => True
 | .lead _ _ _ _ _ => False
structure Ended (w W : World) (gu mb : Nat) (labs : List (List UInt8 × Nat)) (firsts : Nat -> Nat) (its : List It) (code : List UInt8) (rs : List Re) : Prop where
 bx : Bx w W
 gge : w.heap.size + 2 <= gu
 ur : ∃ ln nv pp, UR W (gu + 1) gu (.slice none 0 0) ln nv (.map (some mb)) pp (.slice none 0 0) (.slice none 0 0) its /\ W.ownsRow (gu + 1) 9 1 nv labs.length (qLr labs)
 lb : LbR W mb labs
 laid : Isa.Laid W
 hi : max 1 4 < gu
 n : its.length <= 1000
 ok : ∀ i, i ∈ its -> EndOk W firsts its.length i
 last : (qAL 0 its).getD its.length 0 <= 8000
 wr : qBT ⟨labs, its, firsts⟩ (qAL 0 its) 0 [] [] its = .ok (code, rs)
 cl : code.length <= 100000 /\ rs.length <= 100000
 lbk : ∀ nm k, qAX nm labs = some k -> k <= its.length
 lbs : ∀ j (h : j < labs.length), qAX labs[j].1 labs = some labs[j].2 /\ labs[j].1.length <= maxLen
 ll : labs.length <= 100000
def Told (w W W' : World) (gu mb : Nat) (labs : List (List UInt8 × Nat)) (firsts : Nat -> Nat) (its : List It) (code : List UInt8) (rs : List Re) : Prop :=
 Ended w W gu mb labs firsts its code rs /\ Fr gu W.heap.size W W' /\ ∃ gp ln nv pp, W.heap.size <= gp /\ UR W' (gu + 1) gu (.slice none 0 0) ln nv (.map (some mb)) pp (.slice (some ⟨gp, 0, none⟩) (its.length + 1) (its.length + 1)) (.slice none 0 0) its /\ W.ownsRow (gu + 1) 9 1 nv labs.length (qLr labs) /\ PlR W' gp its.length (its.length + 1) (qAL 0 its)
theorem lay_end {w W : World} {gu mb : Nat} {labs : List (List UInt8 × Nat)} {firsts : Nat -> Nat} {its : List It} {code : List UInt8} {rs : List Re} (h : Ended w W gu mb labs firsts its code rs) :
  Calls Tryz.prog 73 #[.pointer (some ⟨gu, 0, none⟩)] W fun r W' => r = .returned (.int .i64 0) /\ Told w W W' gu mb labs firsts its code rs := by
 obtain ⟨ln, nv, pp, hu, hnv⟩ := h.ur
 have hn := h.n
 refine (qGl gu (gu + 1) _ nv _ pp _ _ ⟨_, _, _, rfl⟩ ln its W hu (by omega) (fun x hx => (h.ok x hx).2.1) (fun pv w' hw => qE1 gu (gu + 1) _ nv _ pp pv _ ln its w' hw (by omega) (fun x hx => (h.ok x hx).1)) h.last).mono ?_
 rintro r W' ⟨rfl, ⟨gp, hgp, h1, h2⟩, h3⟩
 exact ⟨rfl, h, h3, gp, ln, nv, pp, hgp, h1, hnv, h2⟩
theorem qGa (x : SU) (w : World) (its : List It) (i : It) (op n m imm : Int) (hx : i.gen = .plain op n m imm) (fa by' : Value) (p size : Int) (rs rs' : List Re) (b : List UInt8) (hg : GenR w x.gu i fa by') (hok : qDx ⟨x.labs, its, x.firsts⟩ x.ps p size rs i = .ok (b, rs')) :
  ∃ f caps, by' = .func (.func f) #[] caps /\ (∀ args w, (callFunc f args).run Tryz.prog w = .ok (.enter f args) w) /\ ∀ W rv, WS x w W rv rs -> Calls Tryz.prog f (#[.int .i64 p, .int .i64 size] ++ caps) W fun r W' => ∃ ca cl cc rv', r = .returned (.tuple #[.slice ca cl cc, .int .i64 0]) /\ qg W' (.slice ca cl cc) b /\ WS x w W' rv' rs' /\ Ch x.gu rv.ownBlock W W' := by
 unfold GenR at hg
 unfold qDx at hok
 rw [hx] at hg hok
 simp only at hg hok
 obtain ⟨_, gi, rfl, k1⟩ := hg
 refine ⟨_, _, rfl, qJm, fun W rv hW => ?_⟩
 cases he : encU op n m imm with
 | error e => rw [he] at hok; exact absurd hok (by simp [Except.map])
 | ok b' =>
   rw [he] at hok
   simp only [Except.map] at hok
   injection hok with hok
   obtain ⟨rfl, rfl⟩ := Prod.mk.inj hok
   have j1 : W.heap[gi]? = some (.cells (In.mk op n m imm).C 71 (0, 0)) := hW.keep k1 (by
    rintro rfl
    obtain ⟨c', hu⟩ := hW.ub
    have := k1.symm.trans hu
    injection this with this
    injection this with _ e2
    exact absurd e2 (by decide))
   refine (qJF ⟨op, n, m, imm⟩ gi p size b' W hW.s0.laid j1 he).mono ?_
   rintro r W' ⟨⟨ca, cl, cc, rfl, ho⟩, hb⟩
   exact ⟨ca, cl, cc, rv, rfl, ho, hW.go hb, Ch.of hb⟩
theorem qJ0 {w W W' : World} {gu mb : Nat} {labs : List (List UInt8 × Nat)} {firsts : Nat -> Nat} {its : List It} {code : List UInt8} {rs : List Re} (h : Told w W W' gu mb labs firsts its code rs) :
  Calls Tryz.prog 74 #[.pointer (some ⟨gu, 0, none⟩)] W' fun r w' => ∃ ca cl cc sa sl sc qa ql qc, r = .returned (.tuple #[.agg #[.slice ca cl cc, .slice sa sl sc, .slice qa ql qc], .agg #[.int .i64 0, .int .i64 0]]) /\ qB1 w' (.slice ca cl cc) (.slice sa sl sc) (.slice qa ql qc) ⟨code, qCS ⟨labs, its, firsts⟩ (qAL 0 its), rs⟩ /\ Bx w w' := by
 obtain ⟨he, hf, gp, ln, nv, pp, hgp, hu, hnv, hpl⟩ := h
 obtain ⟨iv, l, u1, u2, u3, u4⟩ := id hu.its
 obtain ⟨ln0, nv0, pp0, hu0, _⟩ := he.ur
 obtain ⟨iv0, l0, b1, _⟩ := id hu0.its
 have hgW := qC b1
 have hge := he.gge
 have kp : ∀ {q : Nat} {o : Obj}, W.heap[q]? = some o -> q ≠ gu -> W'.heap[q]? = some o := fun {q o} hq hne => (hf.block q (qC hq) hne).trans hq
 have hlb : LbR W' mb labs := by
  obtain ⟨D, ⟨es, ck, hb, F⟩, hd⟩ := he.lb
  exact ⟨D, ⟨es, ck, kp hb (by rintro rfl; rw [b1] at hb; cases hb), F⟩, hd⟩
 have hnv' : W'.ownsRow (gu + 1) 9 1 nv labs.length (qLr labs) := by
  refine ⟨hnv.1, ?_⟩
  rcases hnv.2 with h5 | ⟨g, cap, cur, h5, h6, h7, h8⟩
  ·exact .inl h5
  ·exact .inr ⟨g, cap, cur, h5, h6, kp h7 (by omega), h8⟩
 have hbd : ∀ k, 0 <= (qAL 0 its).getD k 0 /\ (qAL 0 its).getD k 0 <= 1000000 := fun k => by
  by_cases hk : k <= its.length
  ·have := qCs its 0 k (Int.le_refl _) (fun x hx => (he.ok x hx).2.1) hk
   have := he.n
   omega
  ·have : (qAL 0 its).getD k 0 = 0 := by
    rw [List.getD_eq_getElem?_getD, List.getElem?_eq_none (by rw [qHM]; omega)]
    rfl
   omega
 let x : SU := ⟨gu, gp, mb, its.length, .slice none 0 0, nv, iv, pp, ln, labs, qAL 0 its, firsts⟩
 have hs : S0 x W' := ⟨hpl, hlb, he.laid.below (hf.lowd (Nat.le_of_lt hgW)) he.hi, he.hi, by have := he.n; show its.length <= 100000; omega, hbd, he.lbk⟩
 have hll : l.length = its.length := by rw [<- u3]; simp
 refine (qK6 x (gu + 1) W' its l code rs hs u1 u2 u3 rfl (fun p hp => (u4 p hp).shape.1) (fun i hi => (he.ok i hi).2.2.1) ?_ he.wr he.cl.1 he.cl.2 hnv' he.lbs he.ll).mono ?_
 ·intro k hk rs1 rs2 b hrs hb
  have hki : k < its.length := by omega
  have hlk : l[k].1 = its[k] := by subst u3; simp
  have hok := he.ok its[k] (List.getElem_mem _)
  have hlast := hok.2.2.2.2
  cases hg : its[k].gen with
  | fill => rw [hg] at hlast; exact hlast.elim
  | num nm add => rw [hg] at hlast; exact hlast.elim
  | lead op n m imm q => rw [hg] at hlast; exact hlast.elim
  | plain op n m imm => exact qGa x W' its l[k].1 op n m imm (by rw [hlk]; exact hg) l[k].2.1 l[k].2.2 _ _ rs1 rs2 b (u4 _ (List.getElem_mem _)) hb
 ·rintro r w' ⟨ca, cl, cc, sa, sl, sc, qa, ql, qc, rfl, h1, h2, h3, h4⟩
  have hx0 := kp he.bx.x0 (by omega)
  have hx1 := kp he.bx.x1 (by omega)
  have h4' : Fr gu W'.heap.size W' w' := h4
  have hB' : Below w.heap.size w W' := he.bx.bel.trans ((hf.lowd (Nat.le_of_lt hgW)).mono (by omega))
  refine ⟨ca, cl, cc, sa, sl, sc, qa, ql, qc, rfl, ⟨h1, h2, h3⟩, ⟨hB'.trans ((h4'.lowd (Nat.le_of_lt (qC u1))).mono (by omega)), ?_, ?_⟩⟩
  ·rw [h4'.block _ (qC hx0) (by omega)]; exact hx0
  ·rw [h4'.block _ (qC hx1) (by omega)]; exact hx1
end Go.Proofs.YtgjmbjahgcndnaaGreatDoor
namespace Go.Proofs.YtgjmbjahgcndnaaGreatDoor
open Go.RowKit Go.Maps Go.MapKept
def qCO (name : List UInt8) (shape : Int) : Nat -> Nat -> Int
 | 0, _ => 0
 | fuel + 1, k => if Isa.qAl k = true /\ (Isa.qBB k).data.toList = name /\ Isa.qF k = shape then (k : Int) else qCO name shape fuel (k + 1)
theorem qEF (name : ByteArray) (shape : Int) : ∀ f k, Isa.qp name shape f k = qCO name.data.toList shape f k
 | 0, k => rfl
 | f + 1, k => by rw [Isa.qp, qCO, qEF name shape f (k + 1), ByteArray.toList_eq, ByteArray.toList_eq]
def qHU (name form : List UInt8) : Nat -> Nat -> Int
 | 0, _ => 0
 | f + 1, k => if (qBf k).data.toList == form then (if qCO name k 28 0 = 0 then qHU name form f (k + 1) else qCO name k 28 0) else qHU name form f (k + 1)
theorem qBt (name form : ByteArray) : ∀ f k, qB7 name form f k = qHU name.data.toList form.data.toList f k
 | 0, k => rfl
 | f + 1, k => by rw [qB7, qHU, qBt name form f (k + 1), ByteArray.toList_eq, ByteArray.toList_eq, qEF]
theorem find_nop : qB7 ⟨#[110, 111, 112]⟩ ⟨#[]⟩ 12 0 = 1 := by
 rw [qBt]
 kernel_rfl
theorem lbr_nil {W : World} {mb : Nat} (h : W.heap[mb]? = some (.map #[] 0)) : LbR W mb [] := by
 obtain ⟨es, ck, hb, F, hs, hD⟩ := World.ownsMap_made (H := Unit) W Tryz.prog 9 (plainElem Tryz.prog 3)
 have e1 := (heap_alloc_new W (.map #[] 0)).symm.trans hb
 have e2 : es = #[] := by injection e1 with e1; injection e1 with e2 e3; exact e2.symm
 have e3 : ck = 0 := by injection e1 with e1; injection e1 with e2 e3; exact e3.symm
 rw [e2, e3] at F
 rw [e2] at hs hD
 exact ⟨.map [], ⟨#[], 0, h, F, hs, hD⟩, LM.nil⟩
def wA : ByteArray := ⟨#[97]⟩
structure AlR (w W : World) (gu mb gp mi : Nat) (ln : Int) (labs : List (List UInt8 × Nat)) (its : List It) (asked : Bool) : Prop where
 bx : Bx w W
 ur : ∃ nv, UR W (gu + 1) gu (.slice none 0 0) ln nv (.map (some mb)) (.pointer (some ⟨gp, 0, none⟩)) (.slice none 0 0) (.slice none 0 0) its /\ W.ownsRow (gu + 1) 9 1 nv labs.length (qLr labs)
 lb : LbR W mb labs
 po : if asked then ∃ va vc b0, W.heap[gp]? = some (.cells #[.int .i64 0, .slice va 1 vc, .map (some mi)] 184 (0, 0)) /\ W.ownsRow b0 201 2 (.slice va 1 vc) 1 [.string ⟨([97] : List UInt8).toArray⟩, .int .i64 0] else W.heap[gp]? = some (.cells #[.int .i64 0, .slice none 0 0, .map (some mi)] 184 (0, 0)) /\ W.heap[mi]? = some (.map #[] 0)
end Go.Proofs.YtgjmbjahgcndnaaGreatDoor
