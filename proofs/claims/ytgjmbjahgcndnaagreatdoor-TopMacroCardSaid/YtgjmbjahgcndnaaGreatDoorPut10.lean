/- asm: the bytes of a number. The document's own To. The program's own dis.To. The document's own Put, of a list of bytes. The document's own Up, where, and Bases. A list of objects in memory; the document's own Bases. The document's own Link: what is wrong with the base, the number, and the objects. The contract of the program's scan.Name. -/
import Derived.Test.YtgjmbjahgcndnaaGreatDoorPut8
import Derived.Test.YtgjmbjahgcndnaaGreatDoorPut4
import Derived.Test.YtgjmbjahgcndnaaGreatDoorPut2
import Derived.Test.YtgjmbjahgcndnaaGreatDoorPut1
import Derived.Test.YtgjmbjahgcndnaaGreatDoorPut0
import Derived.Deep.AppendLies
import Derived.Deep.AppendSrc
import Derived.Laws.BytesArg
import Derived.WalkKit
import Derived.WalkSpells
import Derived.WalkLawsBesides
import Derived.Deep.RegionHeld3
import Derived.BigQuiet
import Derived.Lib.ParseIntB
import Derived.Lib.Strings
import Derived.Lib.Split
import Derived.Laws.EntriesVeiled
import Derived.Maps.AppendAt
import Derived.Deep.DeepCutAuto
import Derived.Lib.ConvBytes
import Derived.Lib.ParseIntBMem
import Derived.Lib.AtoiErrMem
import Derived.Lib.Hide
import Derived.Laws.Strings3
import Derived.Laws.Closers25
import Derived.Laws.Closers25b
import Derived.BigCall
import Derived.BigGuard
import Derived.WalkSmall
import Derived.Lib.IndexBytes
import Derived.Lib.SmallJoins
import Derived.Laws.CopyOwn
import Derived.Deep.OwnRows
import Derived.Lib.ItoaMem
import Derived.Lib.AppendIntMem
import Derived.Lib.ItoaLen
import Derived.Lib.SplitLaws
import Derived.Shelf.Abstract
namespace Go.Proofs.YtgjmbjahgcndnaaGreatDoor
open Go.RowKit

set_option maxHeartbeats 4000000 in
theorem number1_any (p s : Int) (gu gs gv : Nat) (size : Nat) (n : Int) (w : World) (hs : w.cell? ⟨gs, 0, none⟩ = some (.int .i64 size)) (hv0 : w.cell? ⟨gv, 0, none⟩ = some (.string ⟨#[]⟩)) (hv1 : w.cell? ⟨gv, 1, none⟩ = some (.int .i64 n)) (h4 : size ≤ 4) (hgs : gs < w.heap.size) (hgv : gv < w.heap.size) :
    Calls Tryz.prog 136 #[.int .i64 p, .int .i64 s, .pointer (some ⟨gv, 0, none⟩), .pointer (some ⟨gs, 0, none⟩), .pointer (some ⟨gu, 0, none⟩)] w fun r w' =>
      (∃ g, r = .returned (.tuple #[.slice (some ⟨g, 0, none⟩) size size, .int .i64 0]) ∧ w.heap.size ≤ g ∧ g < w'.heap.size ∧ ∀ i, i < size → w'.cell? ⟨g, i, none⟩ = some (.int .u8 (Isa.putAt (fun _ => 0) 0 size n i))) ∧ Below w.heap.size w w' := by
  have hm := fun W => makeB size (by omega) W
  have HZ : Hid (∀ i, i < size → (w.alloc (.cells (madeCells #[.int .u8 0] size) 5)).cell? ⟨w.heap.size, i, none⟩ = some (.int .u8 0)) := fun i hi =>
    (World.rowIs_made w (.int .u8 0) size 5).cell hi
  have HP : Hid (∀ W, Below w.heap.size w W → (∀ i, i < size → W.cell? ⟨w.heap.size, i, none⟩ = some (.int .u8 0)) → Calls Tryz.prog 64 #[.slice (some ⟨w.heap.size, 0, none⟩) size size, .int .i64 0, .int .i64 size, .int .i64 n] W fun e w' => ∃ g, e = .returned (.slice (some ⟨g, 0, none⟩) size size) ∧ w.heap.size ≤ g ∧ g < w'.heap.size ∧ (∀ i, i < size → w'.cell? ⟨g, i, none⟩ = some (.int .u8 (Isa.putAt (fun _ => 0) 0 size n i))) ∧ Below w.heap.size w w') := by
    intro W hW hc
    refine (Isa.put_any (some ⟨w.heap.size, 0, none⟩) size size (fun _ => 0) 0 size n W (by omega) (fun _ => ⟨w.heap.size, 0, rfl, fun i hi => by rw [Nat.zero_add]; exact hc i hi⟩) (by omega) (by omega) (by omega) (by omega)).mono ?_
    rintro e w' ⟨rfl, hb, hlt, hcell⟩
    exact ⟨_, rfl, hW.size, hlt, hcell, hW.trans (hb.mono hW.size)⟩
  go_enter Tryz.func136, Tryz.ntmps136
  go_wp2
  go_region_with (go_at_call 64; refine (HP.out _ (by repeat' first | exact oalloc w _ | apply Below.drew) (by intro i hi; exact HZ.out i hi)).mono ?_; rintro e w2 ⟨g, rfl, hg1, hg2, hc2, hb2⟩)
  all_goals go_wp2
  all_goals go_ret2
  all_goals exact ⟨⟨g, rfl, hg1, hg2, hc2⟩, hb2⟩

end Go.Proofs.YtgjmbjahgcndnaaGreatDoor

namespace Go.Proofs.YtgjmbjahgcndnaaGreatDoor.Si
open Go.RowKit Isa

/-- Where an instruction leads. -/
def toI (op imm at' : Int) : Int :=
  if infoShape op = 4 ∨ infoShape op = 5 ∨ infoShape op = 7 then at' + 2 * imm + 4
  else if infoShape op = 8 then at' - at' % 4 + 4 + 4 * imm else 0
def toB (op : Int) : Bool := decide (infoShape op = 4 ∨ infoShape op = 5 ∨ infoShape op = 7 ∨ infoShape op = 8)

end Go.Proofs.YtgjmbjahgcndnaaGreatDoor.Si

namespace Go.Proofs.YtgjmbjahgcndnaaGreatDoor.Si
open Go.RowKit Isa

theorem nat_and3 (x : Nat) (h : x < 18446744073709551616) : x &&& 18446744073709551612 = x / 4 * 4 := by
  have e1 : (x &&& 18446744073709551612) / 2 ^ 2 = x / 4 := by
    rw [Nat.and_div_two_pow]
    show x / 4 &&& (2 ^ 62 - 1) = _
    rw [Nat.and_two_pow_sub_one_eq_mod]
    omega
  have e2 : (x &&& 18446744073709551612) % 2 ^ 2 = 0 := by
    rw [Nat.and_mod_two_pow]
    show x % 4 &&& 0 = 0
    rw [Nat.and_zero]
  omega
theorem andNot3 (x : Int) (h0 : 0 ≤ x) (h1 : x ≤ 9223372036854775807) : bits .andNot .i64 x 3 = x - x % 4 := by
  show IntKind.i64.wrap ((BitVec.ofInt IntKind.i64.bits x &&& ~~~ BitVec.ofInt IntKind.i64.bits 3).toNat : Int) = _
  have : (BitVec.ofInt IntKind.i64.bits x &&& ~~~ BitVec.ofInt IntKind.i64.bits 3).toNat = x.toNat / 4 * 4 := by
    show (BitVec.ofInt 64 x &&& BitVec.ofNat 64 18446744073709551612).toNat = _
    rw [BitVec.toNat_and, BitVec.toNat_ofInt]
    show (x % 18446744073709551616).toNat &&& 18446744073709551612 = _
    rw [nat_and3 _ (by omega)]
    omega
  rw [this, IntKind.wrap_i64]
  omega

theorem ret2 {a ti : Int} {x tb : Bool} (h1 : a = ti) (h2 : x = tb) : Ending.returned (.tuple #[.int .i64 a, .bool x]) = Ending.returned (.tuple #[.int .i64 ti, .bool tb]) := by rw [h1, h2]

set_option maxRecDepth 100000 in
theorem to_any (op n m imm at' : Int) (w : World) (hL : Laid w) (h0 : 0 ≤ at') (h1 : at' ≤ 1000000000000) (h2 : -10000 ≤ imm) (h3 : imm ≤ 10000) :
    Calls Tryz.prog 82 #[.agg #[.int .i64 op, .int .i64 n, .int .i64 m, .int .i64 imm], .int .i64 at'] w fun e w' => e = .returned (.tuple #[.int .i64 (toI op imm at'), .bool (toB op)]) ∧ Below w.heap.size w w' := by
  have HI : Hid (∀ W, Below w.heap.size w W → Calls Tryz.prog 104 #[.int .i64 op] W fun e w' => e = .returned (.tuple #[.string (infoName op), .int .i64 (infoShape op)]) ∧ Below W.heap.size W w') :=
    fun W hb => info_any op W (hL.below hb hL.sz)
  obtain ⟨ti, hti⟩ : ∃ x, x = toI op imm at' := ⟨_, rfl⟩
  obtain ⟨tb, htb⟩ : ∃ x, x = toB op := ⟨_, rfl⟩
  rw [← hti, ← htb]
  have HT := Lib.hid (And.intro hti htb)
  have hA := andNot3 (at' + 4) (by omega) (by omega)
  clear hti htb hL
  generalize infoName op = nm at *
  have HX : Hid (∀ sh, sh = infoShape op → ti = (if sh = 4 ∨ sh = 5 ∨ sh = 7 then at' + 2 * imm + 4 else if sh = 8 then at' - at' % 4 + 4 + 4 * imm else 0) ∧ tb = decide (sh = 4 ∨ sh = 5 ∨ sh = 7 ∨ sh = 8)) := by
    rintro sh rfl
    exact HT.out
  clear HT
  have HX := Lib.hid (HX.out _ rfl)
  generalize infoShape op = sh at *
  go_enter Tryz.func82, Tryz.ntmps82
  go_wp2_with (first | (go_at_call 104; refine (HI.out _ (oalloc _ _)).mono ?_; rintro e W1 ⟨rfl, hb1⟩; have c3 : W1.cell? ⟨w.heap.size, 3, none⟩ = some (.int .i64 imm) := (hb1.cell (p := ⟨w.heap.size, 3, none⟩) (by simp)).trans (by simp); have HB1 := Lib.hid ((oalloc w (.cells #[.int .i64 op, .int .i64 n, .int .i64 m, .int .i64 imm] 71)).trans (hb1.mono (by simp))); clear hb1) | fail)
  all_goals go_ret2
  all_goals (
    obtain ⟨ht1, ht2⟩ := HX.out
    refine ⟨ret2 ?_ ?_, HB1.out⟩
    · clear ht2 HX HB1 HI
      rw [ht1]
      simp_all
      try omega
    · clear ht1 HX HB1 HI
      rw [ht2]
      simp_all)


end Go.Proofs.YtgjmbjahgcndnaaGreatDoor.Si

namespace Go.Proofs.YtgjmbjahgcndnaaGreatDoor.Lp
open Go.RowKit

end Go.Proofs.YtgjmbjahgcndnaaGreatDoor.Lp
namespace Go.Proofs.YtgjmbjahgcndnaaGreatDoor.Li
open Go.RowKit

theorem putL_len (b : List UInt8) (p size n : Int) : (putL b p size n).length = b.length := by simp [putL]

end Go.Proofs.YtgjmbjahgcndnaaGreatDoor.Li

namespace Go.Proofs.YtgjmbjahgcndnaaGreatDoor.Li
open Go.RowKit

end Go.Proofs.YtgjmbjahgcndnaaGreatDoor.Li

namespace Go.Proofs.YtgjmbjahgcndnaaGreatDoor.Li
open Go.RowKit

/-- An object's three slices. -/
def ObIn (w : World) (c s r : Value) (o : Ob) : Prop := OBytes w c o.code ∧ OSyms w s o.syms ∧ ORels w r o.rels
theorem ObIn.below {w w' : World} {B : Nat} {c s r : Value} {o : Ob} (h : ObIn w c s r o) (hb : Below B w w') (hB : w.heap.size ≤ B) : ObIn w' c s r o := ⟨h.1.below hb hB, h.2.1.below hb hB, h.2.2.below hb hB⟩

/-- The slice reads as objects. -/
def OObs (w : World) (v : Value) (l : List Ob) : Prop :=
  ∃ ad cap, v = .slice ad l.length cap ∧ l.length ≤ maxLen ∧ (0 < l.length → ∃ b o, ad = some ⟨b, o, none⟩ ∧ b < w.heap.size ∧ ∀ i (h : i < l.length),
    ∃ c s r, w.cell? ⟨b, o + i * 3, none⟩ = some c ∧ w.cell? ⟨b, o + i * 3 + 1, none⟩ = some s ∧ w.cell? ⟨b, o + i * 3 + 2, none⟩ = some r ∧ ObIn w c s r l[i])
theorem OObs.below {w w' : World} {B : Nat} {v : Value} {l : List Ob} (h : OObs w v l) (hb : Below B w w') (hB : w.heap.size ≤ B) : OObs w' v l := by
  obtain ⟨ad, cap, rfl, hm, hc⟩ := h
  refine ⟨ad, cap, rfl, hm, fun h0 => ?_⟩
  obtain ⟨b, o, rfl, hlt, hcell⟩ := hc h0
  refine ⟨b, o, rfl, Nat.lt_of_lt_of_le hlt hb.size, fun i hi => ?_⟩
  obtain ⟨c, s, r, h1, h2, h3, h4⟩ := hcell i hi
  refine ⟨c, s, r, ?_, ?_, ?_, h4.below hb hB⟩
  · rw [hb.cell (by show b < B; omega)]; exact h1
  · rw [hb.cell (by show b < B; omega)]; exact h2
  · rw [hb.cell (by show b < B; omega)]; exact h3

theorem info3 : (Tryz.prog.info? 3).map (fun i => (i.zero, i.size, i.bytes)) = some (some (.int .i64 0), 1, 8) := by kernel_rfl
theorem endL_app (x y : List Ob) : ∀ b : Int, endL b (x ++ y) = endL (endL b x) y := by
  induction x with
  | nil => intro b; rfl
  | cons o r ih => intro b; simp [endL, ih]
theorem endL_upto (l : List Ob) (b : Int) (k : Nat) : endL b (l.take k) ≤ endL b l := by
  have h := endL_app (l.take k) (l.drop k) b
  rw [List.take_append_drop] at h
  rw [h]
  exact endL_ge _ _

end Go.Proofs.YtgjmbjahgcndnaaGreatDoor.Li

namespace Go.Proofs.YtgjmbjahgcndnaaGreatDoor.Li
open Go.RowKit

/-- What Link answers where something is wrong. -/
def noV (e a : Int) : Ending := .returned (.tuple #[.agg #[.int .i64 0, .slice none 0 0, .slice none 0 0], .agg #[.int .i64 e, .int .i64 a]])
/-- A box, by its block. -/
theorem blk_cell {w : World} {b i : Nat} {c : Array Value} {t : TypeId} {v : Value} (h : w.heap[b]? = some (.cells c t (0, 0))) (hv : c[i]? = some v) : w.cell? ⟨b, i, none⟩ = some v := by simp [World.cell?, h, hv]
theorem blk_froz {w : World} {b i : Nat} {c : Array Value} {t : TypeId} (h : w.heap[b]? = some (.cells c t (0, 0))) : w.frozen? ⟨b, i, none⟩ = false := by simp [World.frozen?, h]
theorem blk_new (w : World) (c : Array Value) (t : TypeId) : (w.alloc (.cells c t)).heap[w.heap.size]? = some (.cells c t (0, 0)) := by unfold World.alloc; simp only [Array.getElem?_push_size]

/-- The two results' boxes, laid first. -/
structure LB (w0 w : World) : Prop where
  bel : Below w0.heap.size w0 w
  lt : w0.heap.size + 2 ≤ w.heap.size
  im : w.heap[w0.heap.size]? = some (.cells #[.int .i64 0, .slice none 0 0, .slice none 0 0] 34 (0, 0))
  fa : w.heap[w0.heap.size + 1]? = some (.cells #[.int .i64 0, .int .i64 0] 36 (0, 0))
theorem LB.new (w : World) : LB w ((w.alloc (.cells #[.int .i64 0, .slice none 0 0, .slice none 0 0] 34)).alloc (.cells #[.int .i64 0, .int .i64 0] 36)) := by
  refine ⟨((Below.refl _ _).alloc (Nat.le_refl _) _).alloc (by simp) _, by simp, ?_, ?_⟩
  · rw [(oalloc _ _).block _ (by simp)]; exact blk_new w _ _
  · have e : (w.alloc (.cells #[.int .i64 0, .slice none 0 0, .slice none 0 0] 34)).heap.size = w.heap.size + 1 := by simp
    rw [← e]
    exact blk_new _ _ _
theorem LB.next {w0 w w' : World} (h : LB w0 w) (hb : Below (w0.heap.size + 2) w w') : LB w0 w' :=
  ⟨h.bel.trans (hb.mono (by omega)), Nat.le_trans h.lt hb.size, by rw [hb.block _ (by omega)]; exact h.im, by rw [hb.block _ (by omega)]; exact h.fa⟩
theorem LB.go {w0 w w' : World} (h : LB w0 w) (hb : Below w.heap.size w w') : LB w0 w' := h.next (hb.mono h.lt)
theorem LB.cells {w0 w : World} (h : LB w0 w) : w.cell? ⟨w0.heap.size, 0, none⟩ = some (.int .i64 0) ∧ w.cell? ⟨w0.heap.size, 1, none⟩ = some (.slice none 0 0) ∧ w.cell? ⟨w0.heap.size, 2, none⟩ = some (.slice none 0 0) ∧
    w.cell? ⟨w0.heap.size + 1, 0, none⟩ = some (.int .i64 0) ∧ w.cell? ⟨w0.heap.size + 1, 1, none⟩ = some (.int .i64 0) ∧
    w.frozen? ⟨w0.heap.size, 0, none⟩ = false ∧ w.frozen? ⟨w0.heap.size, 1, none⟩ = false ∧ w.frozen? ⟨w0.heap.size, 2, none⟩ = false ∧ w.frozen? ⟨w0.heap.size + 1, 0, none⟩ = false ∧ w.frozen? ⟨w0.heap.size + 1, 1, none⟩ = false :=
  ⟨blk_cell h.im rfl, blk_cell h.im rfl, blk_cell h.im rfl, blk_cell h.fa rfl, blk_cell h.fa rfl, blk_froz h.im, blk_froz h.im, blk_froz h.im, blk_froz h.fa, blk_froz h.fa⟩
theorem LB.five {w0 w : World} (h : LB w0 w) (a b c d e : Value) : Below w0.heap.size w0 (((((w.setCell ⟨w0.heap.size, 0, none⟩ a).setCell ⟨w0.heap.size, 1, none⟩ b).setCell ⟨w0.heap.size, 2, none⟩ c).setCell ⟨w0.heap.size + 1, 0, none⟩ d).setCell ⟨w0.heap.size + 1, 1, none⟩ e) :=
  ((((h.bel.setCell (Nat.le_refl _) _).setCell (Nat.le_refl _) _).setCell (Nat.le_refl _) _).setCell (Nat.le_succ _) _).setCell (Nat.le_succ _) _

/-- What Link answers. -/
def LinkEnd (w0 : World) (base : Int) (r : Except (Int × Nat) (List UInt8 × List Sy)) (e : Ending) (w : World) : Prop :=
  Below w0.heap.size w0 w ∧ match r with
  | .error x => e = noV x.1 x.2
  | .ok x => ∃ bv sv, e = .returned (.tuple #[.agg #[.int .i64 base, bv, sv], .agg #[.int .i64 0, .int .i64 0]]) ∧ OBytes w bv x.1 ∧ OSyms w sv x.2

theorem wrongAt_at {nm : List UInt8 → Bool} {l : List Ob} {k : Nat} (hk : k < l.length) : wrongAt nm k (l.drop k) = if wrongO nm l[k] = 0 then wrongAt nm (k + 1) (l.drop (k + 1)) else some (wrongO nm l[k], k) := by
  rw [List.drop_eq_getElem_cons hk]; rfl

end Go.Proofs.YtgjmbjahgcndnaaGreatDoor.Li

namespace Go.Proofs.YtgjmbjahgcndnaaGreatDoor.Li
open Go.RowKit

theorem digit_any (c : Int) (w : World) :
    Calls Tryz.prog 99 #[.int .u8 c] w fun e w' => e = .returned (.bool (digitB c)) ∧ w' = w := by
  by_cases h1 : 48 ≤ c
  all_goals by_cases h2 : c ≤ 57
  all_goals
    go_enter Tryz.func99, Tryz.ntmps99
    go_wp2
    go_ret
    exact ⟨ret_bool (by simp [digitB]; omega), rfl⟩

theorem letter_any (c : Int) (w : World) :
    Calls Tryz.prog 102 #[.int .u8 c] w fun e w' => e = .returned (.bool (letterB c)) ∧ w' = w := by
  by_cases h1 : 97 ≤ c
  all_goals by_cases h2 : c ≤ 122
  all_goals by_cases h3 : 65 ≤ c
  all_goals by_cases h4 : c ≤ 90
  all_goals by_cases h5 : c = 95
  all_goals by_cases h6 : c = 46
  all_goals first
    | (exfalso; omega)
    | (have e5 : (c == 95) = decide (c = 95) := by rfl
       have e6 : (c == 46) = decide (c = 46) := by rfl
       simp only [h5, h6] at e5 e6
       go_enter Tryz.func102, Tryz.ntmps102
       go_wp2
       go_ret
       exact ⟨ret_bool (by first | (simp [letterB]; omega) | simp [letterB]), rfl⟩)

def Enters1 (f : FuncId) : Prop := ∀ args w, (callFunc f args).run Tryz.prog w = .ok (.enter f args) w

def Asks (f : FuncId) (p : Int → Bool) : Prop := ∀ (c : UInt8) (w : World), Calls Tryz.prog f #[.int .u8 (c.toNat : Int)] w fun e w' => e = .returned (.bool (p c.toNat)) ∧ w' = w

def spanL (p : Int → Bool) (l : List UInt8) : Nat := (l.takeWhile (pb p)).length

theorem spanL_yes {p : Int → Bool} {s : ByteArray} {k : Nat} (hk : k < s.size) (hp : p s[k].toNat = true) (h : spanL p s.data.toList = k + spanL p (s.data.toList.drop k)) :
    spanL p s.data.toList = (k + 1) + spanL p (s.data.toList.drop (k + 1)) := by
  rw [h, drop_at hk]
  have hp' : pb p s[k] = true := hp
  simp only [spanL, List.takeWhile_cons, hp', if_true, List.length_cons]
  omega

theorem spanL_no {p : Int → Bool} {s : ByteArray} {k : Nat} (hk : k < s.size) (hp : p s[k].toNat = false) (h : spanL p s.data.toList = k + spanL p (s.data.toList.drop k)) :
    spanL p s.data.toList = k := by
  rw [h, drop_at hk]
  have hp' : pb p s[k] = false := hp
  simp [spanL, hp']

theorem spanL_end {p : Int → Bool} {s : ByteArray} {k : Nat} (hk : s.size ≤ k) (h : spanL p s.data.toList = k + spanL p (s.data.toList.drop k)) : spanL p s.data.toList = k := by
  rw [h, List.drop_eq_nil_of_le (by simpa using hk)]
  simp [spanL]

theorem span_any (s : ByteArray) (f : FuncId) (p : Int → Bool) (w : World) (hs : s.size ≤ 9223372036854775000) (he : Enters1 f) (hp : Asks f p) :
    Calls Tryz.prog 100 #[.string s, .func (.func f) #[] #[]] w fun e w' => e = .returned (.int .i64 (spanL p s.data.toList)) ∧ w' = w := by
  unfold Enters1 at he
  go_enter Tryz.func100, Tryz.ntmps100
  go_wp2
  go_loop [5] (fun i => ∃ k : Nat, k ≤ s.size ∧ i = .int .i64 k ∧ Hid (spanL p s.data.toList = k + spanL p (s.data.toList.drop k))) (fun i => s.size - (intOf i).toNat)
  case atStart => exact ⟨0, Nat.zero_le _, rfl, by simp [Hid]⟩
  case round =>
    obtain ⟨k, hk, rfl, HS⟩ := hrel
    by_cases hlt : k < s.size
    · have hk1 : (k : Int) < s.size := by omega
      have hidx := index9 s k k rfl hlt
      cases hb : p (s[k].toNat : Int)
      · go_wp2_with fail
        refine (hp _ _).mono ?_
        rintro e w1 ⟨rfl, rfl⟩
        simp only [hb]
        go_wp2
        go_ret
        exact ⟨ret_int (by rw [spanL_no hlt hb HS.out]), rfl⟩
      · go_wp2_with fail
        refine (hp _ _).mono ?_
        rintro e w1 ⟨rfl, rfl⟩
        simp only [hb]
        go_wp2
        exact ⟨⟨k + 1, by omega, by go_num, spanL_yes hlt hb HS.out⟩, by simp [intOf]; omega⟩
    · have hk1 : ¬ (k : Int) < s.size := by omega
      go_wp2
      go_ret
      exact ⟨ret_int (by rw [spanL_end (by omega) HS.out]), rfl⟩

theorem inName_any (c : UInt8) (w : World) :
    Calls Tryz.prog 101 #[.int .u8 (c.toNat : Int)] w fun e w' => e = .returned (.bool (nameB c.toNat)) ∧ w' = w := by
  by_cases h0 : (c.toNat : Int) = 46
  · have e0 : ((c.toNat : Int) == 46) = true := by simp [h0]
    go_enter Tryz.func101, Tryz.ntmps101
    go_wp2
    go_ret
    exact ⟨ret_bool (by simp [nameB, h0]), rfl⟩
  · have e0 : ((c.toNat : Int) == 46) = false := by simp [h0]
    cases h1 : letterB c.toNat
    · cases h2 : digitB c.toNat
      all_goals
        go_enter Tryz.func101, Tryz.ntmps101
        go_wp2_with (first | (go_at_call 102; refine (letter_any _ _).mono ?_; rintro e w' ⟨rfl, rfl⟩; simp only [h1]) | (go_at_call 99; refine (digit_any _ _).mono ?_; rintro e w' ⟨rfl, rfl⟩; simp only [h2]))
        go_ret
        exact ⟨ret_bool (by simp [nameB, h1, h2, h0]), rfl⟩
    · go_enter Tryz.func101, Tryz.ntmps101
      go_wp2_with (go_at_call 102; refine (letter_any _ _).mono ?_; rintro e w' ⟨rfl, rfl⟩; simp only [h1])
      go_ret
      exact ⟨ret_bool (by simp [nameB, h1, h0]), rfl⟩

theorem enters52 : Enters1 101 := enters_of Tryz.func101 (by kernel_rfl) rfl

theorem size_of {s : ByteArray} {l : List UInt8} (h : s.data.toList = l) : s.size = l.length := by rw [← h]; exact Array.length_toList.symm

theorem spanL_all (p : Int → Bool) : ∀ l : List UInt8, decide (spanL p l = l.length) = l.all (pb p)
  | [] => rfl
  | c :: r => by
    have ih := spanL_all p r
    simp only [spanL, List.takeWhile_cons, List.all_cons] at ih ⊢
    cases hc : pb p c
    · simp
    · rw [← ih]; simp only [if_true, List.length_cons, Bool.true_and, Nat.add_right_cancel_iff]; exact decide_eq_decide.2 Iff.rfl

theorem name_any (s : ByteArray) (w : World) :
    Calls Tryz.prog 75 #[.string s] w fun e w' => e = .returned (.bool (nameR s.data.toList)) ∧ w' = w := by
  have hlen := size_of (rfl : s.data.toList = _)
  cases hl : s.data.toList with
  | nil =>
    have hs : s = ⟨#[]⟩ := empty_of hl
    subst hs
    go_enter Tryz.func75, Tryz.ntmps75
    go_wp2
    go_ret
    exact ⟨rfl, rfl⟩
  | cons c r =>
    rw [hl] at hlen
    simp only [List.length_cons] at hlen
    have h0 : 0 < s.size := by omega
    have h1 : ¬ (s.size : Int) < 1 := by omega
    by_cases h10 : (10 : Int) < s.size
    · have HF : Hid (nameR (c :: r) = false) := by
        have : ¬ r.length < 10 := by omega
        simp [Hid, nameR, this]
      clear hlen
      go_enter Tryz.func75, Tryz.ntmps75
      go_wp2
      go_ret
      exact ⟨ret_bool HF.out.symm, rfl⟩
    · have hat : s[0] = c := by
        have := drop_at h0
        rw [List.drop_zero, hl] at this
        injection this with h1 _
        exact h1.symm
      have hidx := index9 s 0 0 rfl h0
      rw [hat] at hidx
      cases hd : digitB c.toNat
      · have HF : Hid (nameR (c :: r) = decide (spanL nameB (c :: r) = (c :: r).length)) := by
          have h2 : r.length < 10 := by omega
          have h3 : pb digitB c = false := hd
          rw [spanL_all]
          simp [Hid, nameR, h2, h3]
        have hsp : ∀ w, Calls Tryz.prog 100 #[.string s, .func (.func 101) #[] #[]] w fun e w' => e = .returned (.int .i64 (spanL nameB (c :: r))) ∧ w' = w := by
          intro w
          have := span_any s 101 nameB w (by omega) enters52 (fun c w => inName_any c w)
          rw [hl] at this
          exact this
        have hsz : (s.size : Int) = ((c :: r).length : Nat) := by simp; omega
        rw [HF.out]
        clear HF hl hat
        go_enter Tryz.func75, Tryz.ntmps75
        go_wp2_with (first | (go_at_call 99; refine (digit_any _ _).mono ?_; rintro e w' ⟨rfl, rfl⟩; simp only [hd]) | (go_at_call 100; refine (hsp _).mono ?_; rintro e w' ⟨rfl, rfl⟩))
        go_ret
        refine ⟨ret_bool ?_, rfl⟩
        show decide (((spanL nameB (c :: r) : Nat) : Int) = (r.length : Int) + 1) = _
        exact decide_eq_decide.2 (by omega)
      · have HF : Hid (nameR (c :: r) = false) := by
          have h3 : pb digitB c = true := hd
          simp [Hid, nameR, h3]
        clear hlen hl hat
        go_enter Tryz.func75, Tryz.ntmps75
        go_wp2_with (go_at_call 99; refine (digit_any _ _).mono ?_; rintro e w' ⟨rfl, rfl⟩; simp only [hd])
        go_ret
        exact ⟨ret_bool HF.out.symm, rfl⟩

end Go.Proofs.YtgjmbjahgcndnaaGreatDoor.Li
