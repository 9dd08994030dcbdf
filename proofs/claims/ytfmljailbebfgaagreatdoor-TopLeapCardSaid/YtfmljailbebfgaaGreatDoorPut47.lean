import Derived.Test.YtfmljailbebfgaaGreatDoorPut46
namespace Go.Proofs.YtfmljailbebfgaaGreatDoor
open Go.RowKit
end Go.Proofs.YtfmljailbebfgaaGreatDoor
namespace Go.Proofs.YtfmljailbebfgaaGreatDoor
open Go.RowKit Go.Maps Go.MapKept
def findFrom' (name : List UInt8) (shape : Int) : Nat -> Nat -> Int
 | 0, _ => 0
 | fuel + 1, k => if Isa.knownB k = true /\ (Isa.opName k).data.toList = name /\ Isa.opShape k = shape then (k : Int) else findFrom' name shape fuel (k + 1)
theorem qB3 (name : ByteArray) (shape : Int) : ∀ f k, Isa.findFrom name shape f k = findFrom' name.data.toList shape f k
 | 0, k => rfl
 | f + 1, k => by rw [Isa.findFrom, findFrom', qB3 name shape f (k + 1), ByteArray.toList_eq, ByteArray.toList_eq]
def findU' (name form : List UInt8) : Nat -> Nat -> Int
 | 0, _ => 0
 | f + 1, k => if (formKd k).data.toList == form then (if findFrom' name k 28 0 = 0 then findU' name form f (k + 1) else findFrom' name k 28 0) else findU' name form f (k + 1)
theorem qAb (name form : ByteArray) : ∀ f k, findU name form f k = findU' name.data.toList form.data.toList f k
 | 0, k => rfl
 | f + 1, k => by rw [findU, findU', qAb name form f (k + 1), ByteArray.toList_eq, ByteArray.toList_eq, qB3]
theorem find_nop : findU ⟨#[110, 111, 112]⟩ ⟨#[]⟩ 12 0 = 1 := by
 rw [qAb]
 kernel_rfl
theorem lbr_nil {W : World} {mb : Nat} (h : W.heap[mb]? = some (.map #[] 0)) : LbR W mb [] := by
 obtain ⟨es, ck, hb, F, hs, hD⟩ := World.ownsMap_made (H := Unit) W Tryz.prog 9 (plainElem Tryz.prog 3)
 have e1 := (heap_alloc_new W (.map #[] 0)).symm.trans hb
 have e2 : es = #[] := by injection e1 with e1; injection e1 with e2 e3; exact e2.symm
 have e3 : ck = 0 := by injection e1 with e1; injection e1 with e2 e3; exact e3.symm
 rw [e2, e3] at F
 rw [e2] at hs hD
 exact ⟨.map [], ⟨#[], 0, h, F, hs, hD⟩, LM.nil⟩
def wA : ByteArray := ⟨#[97]⟩
structure AlR (w W : World) (gu mb gp mi : Nat) (ln : Int) (labs : List (List UInt8 × Nat)) (its : List It) (asked : Bool) : Prop where
 bx : Bx w W
 ur : ∃ nv, UR W (gu + 1) gu (.slice none 0 0) ln nv (.map (some mb)) (.pointer (some ⟨gp, 0, none⟩)) (.slice none 0 0) (.slice none 0 0) its /\ W.ownsRow (gu + 1) 9 1 nv labs.length (nameC labs)
 lb : LbR W mb labs
 po : if asked then ∃ va vc b0, W.heap[gp]? = some (.cells #[.int .i64 0, .slice va 1 vc, .map (some mi)] 186 (0, 0)) /\ W.ownsRow b0 203 2 (.slice va 1 vc) 1 [.string ⟨([97] : List UInt8).toArray⟩, .int .i64 0] else W.heap[gp]? = some (.cells #[.int .i64 0, .slice none 0 0, .map (some mi)] 186 (0, 0)) /\ W.heap[mi]? = some (.map #[] 0)
theorem AlR.go {w W W' : World} {gu mb gp mi : Nat} {ln : Int} {labs : List (List UInt8 × Nat)} {its : List It} {asked : Bool} (h : AlR w W gu mb gp mi ln labs its asked) (hb : Below W.heap.size W W') : AlR w W' gu mb gp mi ln labs its asked := by
 obtain ⟨nv, h1, h2⟩ := h.ur
 refine ⟨h.bx.go hb, ⟨nv, h1.go hb, Sc.qJ h2 hb (Nat.le_refl _)⟩, h.lb.go hb, ?_⟩
 have hp := h.po
 cases asked
 ·simp only [Bool.false_eq_true, if_false] at hp ⊢
  exact ⟨(hb.block _ (qC hp.1)).trans hp.1, (hb.block _ (qC hp.2)).trans hp.2⟩
 ·simp only [if_true] at hp ⊢
  obtain ⟨va, vc, b0, p1, p2⟩ := hp
  exact ⟨va, vc, b0, (hb.block _ (qC p1)).trans p1, Sc.qJ p2 hb (Nat.le_refl _)⟩
theorem AlR.keep {w W W' : World} {gu mb gp mi : Nat} {ln : Int} {labs : List (List UInt8 × Nat)} {its its' : List It} {asked : Bool} (h : AlR w W gu mb gp mi ln labs its asked) (hk : KeepM W W') (hf : Fr gu (gu + 1) W W') (hge : w.heap.size + 2 <= gu) (hu : ∀ nv, UR W (gu + 1) gu (.slice none 0 0) ln nv (.map (some mb)) (.pointer (some ⟨gp, 0, none⟩)) (.slice none 0 0) (.slice none 0 0) its -> UR W' (gu + 1) gu (.slice none 0 0) ln nv (.map (some mb)) (.pointer (some ⟨gp, 0, none⟩)) (.slice none 0 0) (.slice none 0 0) its') : AlR w W' gu mb gp mi ln labs its' asked := by
 obtain ⟨nv, h1, h2⟩ := h.ur
 have hrow : ∀ {base size n : Nat} {e : TypeId} {v : Value} {xs : List Value}, W.ownsRow base e size v n xs -> e ≠ 143 -> e ≠ 200 -> W'.ownsRow base e size v n xs := by
  intro base size n e v xs hr e1 e2
  refine ⟨hr.1, ?_⟩
  rcases hr.2 with h5 | ⟨q, cap, cur, h5, h6, h7, h8⟩
  ·exact .inl h5
  ·exact .inr ⟨q, cap, cur, h5, h6, hk.2 _ _ h7 (by intro c f e; injection e with _ e3; exact e1 e3) (by intro c f e; injection e with _ e3; exact e2 e3), h8⟩
 have nc : ∀ {c : Array Value} {t : TypeId}, t ≠ 143 -> ∀ c' f', Obj.cells c t (0, 0) ≠ .cells c' 143 f' := fun ht c' f' e => by injection e with _ e3; exact ht e3
 have ni : ∀ {c : Array Value} {t : TypeId}, t ≠ 200 -> ∀ c' f', Obj.cells c t (0, 0) ≠ .cells c' 200 f' := fun ht c' f' e => by injection e with _ e3; exact ht e3
 refine ⟨⟨h.bx.bel.trans ⟨hf.os, hf.tape, hf.output, hf.size, fun i hi => hf.block i (by omega) (by omega)⟩, hk.2 _ _ h.bx.x0 (nc (by decide)) (ni (by decide)), hk.2 _ _ h.bx.x1 (nc (by decide)) (ni (by decide))⟩, ⟨nv, hu nv h1, hrow h2 (by decide) (by decide)⟩, ?_, ?_⟩
 ·obtain ⟨D, ⟨es, ck, hb, F⟩, hd⟩ := h.lb
  exact ⟨D, ⟨es, ck, hk.2 _ _ hb (by intro c f e; cases e) (by intro c f e; cases e), F⟩, hd⟩
 ·have hp := h.po
  cases asked
  ·simp only [Bool.false_eq_true, if_false] at hp ⊢
   exact ⟨hk.2 _ _ hp.1 (nc (by decide)) (ni (by decide)), hk.2 _ _ hp.2 (by intro c f e; cases e) (by intro c f e; cases e)⟩
  ·simp only [if_true] at hp ⊢
   obtain ⟨va, vc, b0, p1, p2⟩ := hp
   exact ⟨va, vc, b0, hk.2 _ _ p1 (nc (by decide)) (ni (by decide)), hrow p2 (by decide) (by decide)⟩
theorem AlR.line {w W : World} {gu mb gp mi : Nat} {ln : Int} {labs : List (List UInt8 × Nat)} {its : List It} {asked : Bool} (h : AlR w W gu mb gp mi ln labs its asked) (hge : w.heap.size + 2 <= gu) (p : Int) (o : Obj) : AlR w ((W.setCell ⟨gu, 1, none⟩ (.int .i64 p)).alloc o) gu mb gp mi p labs its asked := by
 refine AlR.go (W := W.setCell ⟨gu, 1, none⟩ (.int .i64 p)) ?_ (oalloc _ _)
 obtain ⟨nv, h1, h2⟩ := h.ur
 obtain ⟨iv, il, x1, _⟩ := id h1.its
 have kp : ∀ {q : Nat} {c : Array Value} {t : TypeId}, W.heap[q]? = some (.cells c t (0, 0)) -> t ≠ 143 -> (W.setCell ⟨gu, 1, none⟩ (.int .i64 p)).heap[q]? = some (.cells c t (0, 0)) := fun {q c t} hq ht => by
  rw [Below.heap_setCell _ _ _ _ (by show q ≠ gu; rintro rfl; rw [x1] at hq; injection hq with hq; injection hq with _ e2; exact ht e2.symm)]
  exact hq
 have km : ∀ {q : Nat} {es : Array MapEntry} {ck : Nat}, W.heap[q]? = some (.map es ck) -> (W.setCell ⟨gu, 1, none⟩ (.int .i64 p)).heap[q]? = some (.map es ck) := fun {q es ck} hq => by
  rw [Below.heap_setCell _ _ _ _ (by show q ≠ gu; rintro rfl; rw [x1] at hq; cases hq)]
  exact hq
 have hrow : ∀ {base size n : Nat} {e : TypeId} {v : Value} {xs : List Value}, W.ownsRow base e size v n xs -> e ≠ 143 -> (W.setCell ⟨gu, 1, none⟩ (.int .i64 p)).ownsRow base e size v n xs := by
  intro base size n e v xs hr e1
  refine ⟨hr.1, ?_⟩
  rcases hr.2 with h5 | ⟨q, cap, cur, h5, h6, h7, h8⟩
  ·exact .inl h5
  ·exact .inr ⟨q, cap, cur, h5, h6, kp h7 e1, h8⟩
 refine ⟨⟨h.bx.bel.setCell (p := ⟨gu, 1, none⟩) (by show w.heap.size <= gu; omega) _, kp h.bx.x0 (by decide), kp h.bx.x1 (by decide)⟩, ⟨nv, h1.line p, hrow h2 (by decide)⟩, ?_, ?_⟩
 ·obtain ⟨D, ⟨es, ck, hb, F⟩, hd⟩ := h.lb
  exact ⟨D, ⟨es, ck, km hb, F⟩, hd⟩
 ·have hp := h.po
  cases asked
  ·simp only [Bool.false_eq_true, if_false] at hp ⊢
   exact ⟨kp hp.1 (by decide), km hp.2⟩
  ·simp only [if_true] at hp ⊢
   obtain ⟨va, vc, b0, p1, p2⟩ := hp
   exact ⟨va, vc, b0, kp p1 (by decide), hrow p2 (by decide)⟩
def its1 (gp : Nat) : List It := [leadI 1 24 1 0 0 (.slot gp 0)]
def its2 (gp : Nat) : List It := its1 gp ++ [leadI 2 19 0 0 0 (.val [97] 0)]
structure AllLaid (w : World) : Prop where
 isa : Isa.Laid w
 frm : FLaid w
 ex : Xp.KLaid w
 gl : Sc.Glob w
theorem AllLaid.next {w w' : World} (h : AllLaid w) (hb : Below w.heap.size w w') : AllLaid w' := ⟨h.isa.below hb h.isa.sz, h.frm.below hb h.frm.sz, KL.below h.ex hb, h.gl.below hb h.gl.sz⟩
theorem qId (n : Int) (h0 : -9223372036854775808 <= n) (h1 : n <= 9223372036854775807) (w : World) (hG : Sc.Glob w) :
  Calls Tryz.prog 7 #[.int .i64 n] w fun e w' => e = .returned (.string ⟨(Lib.itoa n).toArray⟩) /\ Below w.heap.size w w' := by
 refine (Tryz.strconv_Itoa n h0 h1 w hG.tab).mono ?_
 rintro e w' ⟨rfl, k, os, rfl⟩
 exact ⟨rfl, Lib.below_grow _ w (Nat.le_refl _) k os⟩
end Go.Proofs.YtfmljailbebfgaaGreatDoor
namespace Go.Proofs.YtfmljailbebfgaaGreatDoor
open Go.RowKit
end Go.Proofs.YtfmljailbebfgaaGreatDoor
namespace Go.Proofs.YtfmljailbebfgaaGreatDoor
open Go.RowKit Go.Maps Go.MapKept
def tkComma : Tk := ⟨3, 0, ⟨#[44]⟩⟩
theorem qIE : isComma tkComma = true := by simp [isComma, tkComma, ByteArray.toList_eq]
theorem UR.same {W : World} {gu : Nat} {B : Nat} {e : Value} {ln : Int} {nv nv' lm pp pv rv : Value} {its : List It} (hn : UR W B gu e ln nv' lm pp pv rv its) (hu : UR W B gu e ln nv lm pp pv rv its) : nv' = nv := by
 obtain ⟨i1, l1, a1, _⟩ := hn.its
 obtain ⟨i2, l2, a2, _⟩ := hu.its
 have e := a1.symm.trans a2
 injection e with e
 injection e with e _
 have e2 := congrArg (fun a : Array Value => a[2]?) e
 simpa [uC] using e2
section
variable (w W : World) (gu mb gp mi : Nat) (v : Value) (ln : Int) (labs : List (List UInt8 × Nat)) (its : List It)
theorem find_bf : findU ⟨#[98, 102]⟩ ⟨#[112]⟩ 12 0 = 18 := by
 rw [qAb]
 kernel_rfl
end
end Go.Proofs.YtfmljailbebfgaaGreatDoor
