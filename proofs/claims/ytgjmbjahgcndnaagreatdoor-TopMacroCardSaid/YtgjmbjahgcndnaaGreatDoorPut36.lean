/- asm: labels as a map, and where a value is. asm: a label kept. asm: instructions' bytes. asm: a unit whose places are told, while it is written; where an instruction leads. asm: a line that begins with a label. -/
import Derived.Test.YtgjmbjahgcndnaaGreatDoorPut35
import Derived.Test.YtgjmbjahgcndnaaGreatDoorPut32
import Derived.Test.YtgjmbjahgcndnaaGreatDoorPut31
namespace Go.Proofs.YtgjmbjahgcndnaaGreatDoor
open Go.RowKit Go.Maps Go.MapKept

theorem lawS : Keyed Tryz.prog 9 := string_keyed Tryz.underlying9
theorem zeroI (w : World) : (zeroValue 3).run Tryz.prog w = .ok (.int .i64 0) w := by kernel_rfl

theorem labelAt_snoc (n x : List UInt8) (k : Nat) : ∀ l : List (List UInt8 × Nat), labelAt n (l ++ [(x, k)]) = match labelAt n l with | some j => some j | none => if x = n then some k else none
  | [] => by simp [labelAt]
  | (a, j) :: r => by
    rw [List.cons_append, labelAt, labelAt, labelAt_snoc n x k r]
    by_cases h : a = n
    · rw [if_pos h, if_pos h]
    · rw [if_neg h, if_neg h]

/-- The map tells which item each label stands ahead of. -/
structure LM (D : DataW Unit) (l : List (List UInt8 × Nat)) : Prop where
  im : IsMap D
  has : ∀ n, Maps.has D (.string n) = (labelAt n l).isSome
  at' : ∀ n z k, labelAt n l = some k → D.atKey (.string n) z = .lit (.int .i64 (k : Int))
  no : ∀ n z, labelAt n l = none → D.atKey (.string n) z = z
theorem LM.nil : LM (.map []) [] := ⟨isMap_empty, fun _ => rfl, fun _ _ _ h => by simp [labelAt] at h, fun _ _ _ => rfl⟩
theorem LM.snoc {D : DataW Unit} {l : List (List UInt8 × Nat)} (h : LM D l) {x : List UInt8} {k : Nat} (h0 : labelAt x l = none) : LM (D.put (.string x) (.lit (.int .i64 (k : Int)))) (l ++ [(x, k)]) := by
  refine ⟨h.im.put _ _, fun n => ?_, fun n z j hn => ?_, fun n z hn => ?_⟩
  · rw [labelAt_snoc]
    by_cases hn : x = n
    · subst hn
      rw [has_put_same h.im (by trivial), h0]
      simp
    · rw [has_put_other (fun e => hn (by injection e with e; exact e.symm)), h.has]
      cases labelAt n l <;> simp [hn]
  · rw [labelAt_snoc] at hn
    by_cases hq : x = n
    · subst hq
      rw [h0] at hn
      simp only [if_true, Option.some.injEq] at hn
      subst hn
      rw [atKey_put_same h.im (by trivial)]
    · rw [atKey_put_other (fun e => hq (by injection e with e; exact e.symm))]
      refine h.at' n z j ?_
      cases hl : labelAt n l with
      | none => rw [hl] at hn; simp [hq] at hn
      | some i => rw [hl] at hn; exact hn
  · rw [labelAt_snoc] at hn
    have hl : labelAt n l = none := by
      cases hl : labelAt n l with
      | none => rfl
      | some i => rw [hl] at hn; simp at hn
    have hq : x ≠ n := by
      intro e
      rw [hl] at hn
      simp [e] at hn
    rw [atKey_put_other (fun e => hq (by injection e with e; exact e.symm))]
    exact h.no n z hl

/-- The labels of a unit in memory. -/
def LbR (W : World) (mb : Nat) (l : List (List UInt8 × Nat)) : Prop := ∃ D, W.ownsMap Tryz.prog 9 (plainElem Tryz.prog 3) mb l.length D ∧ LM D l
theorem LbR.go {W W' : World} {mb : Nat} {l : List (List UInt8 × Nat)} (h : LbR W mb l) (hb : Below W.heap.size W W') : LbR W' mb l := by
  obtain ⟨D, h1, h2⟩ := h
  exact ⟨D, h1.kept (gbelow none hb (Nat.le_refl _)) (by simp), h2⟩
theorem LbR.grown {W W' : World} {mb : Nat} {l : List (List UInt8 × Nat)} {r : Option Nat} (h : LbR W mb l) (hb : W.grownBy W' r) (hr : r ≠ some mb) : LbR W' mb l := by
  obtain ⟨D, h1, h2⟩ := h
  exact ⟨D, h1.kept hb (fun e => hr e.symm), h2⟩

theorem strKey {nm : List UInt8} (hl : nm.length ≤ maxLen) : keyOf Tryz.prog 9 (.string ⟨nm.toArray⟩) = some (.string nm) := Go.WideMaps.keyOf_string_mk Tryz.underlying9 (s := ⟨nm.toArray⟩) (by simpa [ByteArray.size] using hl)
theorem lit_int {a b : Int} (h : (DataW.lit (.int .i64 a) : DataW Unit) = .lit (.int .i64 b)) : a = b := by
  injection h with h
  injection h with _ h
theorem LbR.look {W : World} {mb k : Nat} {l : List (List UInt8 × Nat)} {nm : List UInt8} (h : LbR W mb l) (hl : nm.length ≤ maxLen) (hk : labelAt nm l = some k) : (Instr.lookup 89 (.map (some mb)) (.string ⟨nm.toArray⟩) true).run Tryz.prog W = .ok (.tuple #[.int .i64 (k : Int), .bool true]) W := by
  obtain ⟨D, hm, hd⟩ := h
  obtain ⟨v, ps, hrun, hv⟩ := hm.look_ok lawS Tryz.underlying89 (zeroI W) (plainElem_int Tryz.underlying3 (by decide)) (strKey hl)
  obtain ⟨c, rfl, hc, _⟩ := plainElem_int_inv Tryz.underlying3 hv
  have hc1 := (hd.at' nm _ k hk).symm.trans (congrArg Prod.fst hc)
  have hc2 : (k : Int) = c := lit_int hc1
  subst hc2
  have hh : Maps.has D (.string nm) = true := by rw [hd.has, hk]; rfl
  rw [hh] at hrun
  exact hrun
theorem LbR.look0 {W : World} {mb : Nat} {l : List (List UInt8 × Nat)} {nm : List UInt8} (h : LbR W mb l) (hl : nm.length ≤ maxLen) (hk : labelAt nm l = none) : (Instr.lookup 89 (.map (some mb)) (.string ⟨nm.toArray⟩) true).run Tryz.prog W = .ok (.tuple #[.int .i64 0, .bool false]) W := by
  obtain ⟨D, hm, hd⟩ := h
  obtain ⟨v, ps, hrun, hv⟩ := hm.look_ok lawS Tryz.underlying89 (zeroI W) (plainElem_int Tryz.underlying3 (by decide)) (strKey hl)
  obtain ⟨c, rfl, hc, _⟩ := plainElem_int_inv Tryz.underlying3 hv
  have hc1 := (hd.no nm _ hk).symm.trans (congrArg Prod.fst hc)
  have hc2 : (0 : Int) = c := lit_int hc1
  subst hc2
  have hh : Maps.has D (.string nm) = false := by rw [hd.has, hk]; rfl
  rw [hh] at hrun
  exact hrun
theorem LbR.at1 {W : World} {mb k : Nat} {l : List (List UInt8 × Nat)} {nm : List UInt8} (h : LbR W mb l) (hl : nm.length ≤ maxLen) (hk : labelAt nm l = some k) : (Instr.lookup 89 (.map (some mb)) (.string ⟨nm.toArray⟩) false).run Tryz.prog W = .ok (.int .i64 (k : Int)) W := by
  obtain ⟨D, hm, hd⟩ := h
  obtain ⟨c, hrun, hat, _⟩ := hm.lookup_int lawS Tryz.underlying89 Tryz.underlying3 (zeroI W) (strKey hl)
  have hc2 : (k : Int) = c := lit_int ((hd.at' nm _ k hk).symm.trans hat)
  subst hc2
  exact hrun

set_option maxHeartbeats 4000000 in
theorem placeOf_found (gu gp mb k n : Nat) (e nv iv pp rv : Value) (ln add : Int) (nm : List UInt8) (l : List (List UInt8 × Nat)) (ps : List Int) (w : World) (hu : w.heap[gu]? = some (.cells (uC e ln nv (.map (some mb)) iv pp (.slice (some ⟨gp, 0, none⟩) (n + 1) (n + 1)) rv) 141 (0, 0)))
    (hm : LbR w mb l) (hp : PlR w gp n (n + 1) ps) (hn : nm ≠ []) (hl : nm.length ≤ maxLen) (hk : labelAt nm l = some k) (hkn : k ≤ n) (_ : n ≤ 100000) (h0 : 0 ≤ ps.getD k 0) (h1 : ps.getD k 0 ≤ 1000000) (h2 : -1000000000000 ≤ add) (h3 : add ≤ 1000000000000) :
    Calls Tryz.prog 137 #[.pointer (some ⟨gu, 0, none⟩), .agg #[.string ⟨nm.toArray⟩, .int .i64 add]] w fun r w' => r = .returned (.tuple #[.int .i64 (ps.getD k 0 + add), .int .i64 0]) ∧ Below w.heap.size w w' := by
  have hlk := (hm.go (oalloc w (.cells #[.string ⟨nm.toArray⟩, .int .i64 add] 201))).look hl hk
  have hlk' := (hm.go (oalloc w (.cells #[.string ⟨nm.toArray⟩, .int .i64 add] 201)).drew).look hl hk
  have c3 : w.cell? ⟨gu, 3, none⟩ = some (.map (some mb)) := blk_cell hu rfl
  have c6 : w.cell? ⟨gu, 6, none⟩ = some (.slice (some ⟨gp, 0, none⟩) (n + 1) (n + 1)) := blk_cell hu rfl
  have hg := blk_lt hu
  have hn1 : (nm == []) = false := by simpa using hn
  obtain ⟨q, hq⟩ : ∃ q, ps.getD k 0 = q := ⟨_, rfl⟩
  have hgp : gp < w.heap.size := by obtain ⟨cs, k1, _⟩ := hp; exact blk_lt k1
  have cp : w.cell? ⟨gp, k, none⟩ = some (.int .i64 q) := by obtain ⟨cs, k1, _, _, k4⟩ := hp; rw [← hq]; exact blk_cell k1 (k4 k (by omega))
  rw [hq] at h0 h1 ⊢
  clear hp hq hm hu hk
  go_enter Tryz.func137, Tryz.ntmps137
  go_wp2_with fail
  go_region
  all_goals go_wp2_with fail
  all_goals go_region
  all_goals go_wp2_with fail
  all_goals
    go_ret2
    exact ⟨rfl, ((oalloc _ _).drew).drew⟩

set_option maxHeartbeats 4000000 in
theorem placeOf_none (gu mb : Nat) (e nv iv pp pv rv : Value) (ln add : Int) (nm : List UInt8) (l : List (List UInt8 × Nat)) (w : World) (hu : w.heap[gu]? = some (.cells (uC e ln nv (.map (some mb)) iv pp pv rv) 141 (0, 0)))
    (hm : LbR w mb l) (hn : nm ≠ []) (hl : nm.length ≤ maxLen) (hk : labelAt nm l = none) :
    Calls Tryz.prog 137 #[.pointer (some ⟨gu, 0, none⟩), .agg #[.string ⟨nm.toArray⟩, .int .i64 add]] w fun r w' => r = .returned (.tuple #[.int .i64 0, .int .i64 6]) ∧ Below w.heap.size w w' := by
  have hlk := (hm.go (oalloc w (.cells #[.string ⟨nm.toArray⟩, .int .i64 add] 201))).look0 hl hk
  have hlk' := (hm.go (oalloc w (.cells #[.string ⟨nm.toArray⟩, .int .i64 add] 201)).drew).look0 hl hk
  have c3 : w.cell? ⟨gu, 3, none⟩ = some (.map (some mb)) := blk_cell hu rfl
  have hg := blk_lt hu
  have hn1 : (nm == []) = false := by simpa using hn
  clear hm hu hk
  go_enter Tryz.func137, Tryz.ntmps137
  go_wp2_with fail
  go_region
  all_goals go_wp2_with fail
  all_goals
    go_ret2
    exact ⟨rfl, (oalloc _ _).drew⟩

end Go.Proofs.YtgjmbjahgcndnaaGreatDoor

namespace Go.Proofs.YtgjmbjahgcndnaaGreatDoor
open Go.RowKit Go.Maps Go.MapKept

theorem index_nil (fc : Array Value) (w : World) : Calls Tryz.prog 189 #[.slice none 0 0, .func (.func 155) #[] fc] w fun r w' => r = .returned (.int .i64 (-1)) ∧ Below w.heap.size w w' := by
  go_enter Tryz.func189, Tryz.ntmps189
  go_wp2_with fail
  refine wp_loop_rounds 1 ?_
  rw [rounds_succ]
  go_wp2
  go_ret
  exact ⟨rfl, Below.refl _ _⟩
theorem contains_nil (fc : Array Value) (w : World) : Calls Tryz.prog 153 #[.slice none 0 0, .func (.func 155) #[] fc] w fun r w' => r = .returned (.bool false) ∧ Below w.heap.size w w' := by
  have HI := Lib.hid (index_nil fc)
  go_enter Tryz.func153, Tryz.ntmps153
  go_wp2_with (first | (go_at_call 189; refine (HI.out _).mono ?_; rintro e w1 ⟨rfl, hb1⟩) | fail)
  go_ret
  exact ⟨rfl, hb1⟩

set_option maxHeartbeats 4000000 in
theorem free_yes (gu mb : Nat) (n : Int) (nm : List UInt8) (l : List (List UInt8 × Nat)) (w : World) (c0 : w.cell? ⟨gu, 0, none⟩ = some (.slice none 0 0)) (c3 : w.cell? ⟨gu, 3, none⟩ = some (.map (some mb))) (hm : LbR w mb l) (hk : labelAt nm l = none) (hl : nm.length ≤ maxLen) (hG : Sc.Glob w) (hr : regU 1 nm < 0) (hname : Xp.nameR nm = true) :
    Calls Tryz.prog 126 #[.pointer (some ⟨gu, 0, none⟩), tokV 1 n ⟨nm.toArray⟩] w fun r w' => r = .returned (.bool true) ∧ Below w.heap.size w w' := by
  have HNA : Hid (∀ W, Calls Tryz.prog 75 #[.string ⟨nm.toArray⟩] W fun r w' => r = .returned (.bool true) ∧ W = w') := fun W => by
    refine (Xp.name_any ⟨nm.toArray⟩ W).mono ?_
    rintro e w' ⟨rfl, rfl⟩
    exact ⟨by simp [hname], rfl⟩
  have HCO := Lib.hid fun fc W => contains_nil fc W
  have HRG := Lib.hid fun W (hb : Below w.heap.size w W) => register_word n ⟨nm.toArray⟩ W (hG.below hb hG.sz)
  have hg : gu < w.heap.size := World.block_lt_of_cell? w _ c0
  have hlk := (hm.go (oalloc w (.cells #[.int .i64 1, .int .i64 n, .string ⟨nm.toArray⟩] 171))).look0 hl hk
  have hlk' := (hm.go (oalloc w (.cells #[.int .i64 1, .int .i64 n, .string ⟨nm.toArray⟩] 171)).drew).look0 hl hk
  clear hname hm hG hk
  simp only at HRG
  generalize regU 1 nm = rg at *
  unfold tokV at *
  go_enter Tryz.func126, Tryz.ntmps126
  go_wp2_with fail
  go_region
  all_goals go_wp2_with fail
  all_goals
    refine (HNA.out _).mono ?_
    rintro e w1 ⟨rfl, rfl⟩
    go_wp2_with fail
    refine (HRG.out _ ((oalloc _ _).drew)).mono ?_
    rintro e w1 ⟨rfl, hb1⟩
    have HB1 : Hid (Below w.heap.size w w1) := ((oalloc w (.cells #[.int .i64 1, .int .i64 n, .string ⟨nm.toArray⟩] 171)).drew).trans (hb1.mono (by show w.heap.size ≤ (World.alloc _ _).heap.size; simp))
    have d0 : w1.cell? ⟨gu, 0, none⟩ = some (.slice none 0 0) := by rw [HB1.out.cell (by exact hg)]; exact c0
    have hg1 := Nat.lt_of_lt_of_le hg HB1.out.size
    clear hb1
    go_wp2_with fail
    refine (HCO.out _ _).mono ?_
    rintro e w2 ⟨rfl, hb2⟩
    go_wp2_with fail
    go_ret
    exact ⟨rfl, HB1.out.trans (hb2.mono HB1.out.size)⟩

end Go.Proofs.YtgjmbjahgcndnaaGreatDoor

namespace Go.Proofs.YtgjmbjahgcndnaaGreatDoor
open Go.RowKit

/-- The bytes that Put has laid. -/
theorem putB {W : World} {g size : Nat} {n : Int} (hs : size = 1 ∨ size = 2 ∨ size = 4) (hg : g < W.heap.size) (h : ∀ i, i < size → W.cell? ⟨g, i, none⟩ = some (.int .u8 (Isa.putAt (fun _ => 0) 0 size n i))) : OBytes W (.slice (some ⟨g, 0, none⟩) size size) (putU size n) := by
  have key : (putU size n).length = size ∧ ∀ i (hi : i < (putU size n).length), (((putU size n)[i]).toNat : Int) = Isa.putAt (fun _ => 0) 0 size n i := by
    rcases hs with rfl | rfl | rfl
    · refine ⟨rfl, fun i hi => ?_⟩
      obtain rfl : i = 0 := by simpa [putU] using hi
      show ((lowB n).toNat : Int) = _
      rw [lowB_nat]
      simp [Isa.putAt]
    · refine ⟨rfl, fun i hi => ?_⟩
      have hi' : i < 2 := by simpa [putU, half] using hi
      rcases i with _ | _ | i
      · show ((lowB (n / 256)).toNat : Int) = _
        rw [lowB_nat]
        simp [Isa.putAt]
      · show ((lowB n).toNat : Int) = _
        rw [lowB_nat]
        simp [Isa.putAt]
      · omega
    · refine ⟨rfl, fun i hi => ?_⟩
      have hi' : i < 4 := by simpa [putU, be4] using hi
      rcases i with _ | _ | _ | _ | i
      · show ((lowB (n / 16777216)).toNat : Int) = _
        rw [lowB_nat]
        simp [Isa.putAt]
      · show ((lowB (n / 65536)).toNat : Int) = _
        rw [lowB_nat]
        simp [Isa.putAt]
      · show ((lowB (n / 256)).toNat : Int) = _
        rw [lowB_nat]
        simp [Isa.putAt]
      · show ((lowB n).toNat : Int) = _
        rw [lowB_nat]
        simp [Isa.putAt]
      · omega
  obtain ⟨hl, hb⟩ := key
  refine ⟨some ⟨g, 0, none⟩, size, by rw [hl], by rw [hl]; rcases hs with rfl | rfl | rfl <;> decide, fun _ => ⟨g, 0, rfl, hg, fun i hi => ?_⟩⟩
  rw [hb i hi, Nat.zero_add]
  exact h i (by omega)

/-- An instruction's numbers. -/
structure In where
  op : Int
  n : Int
  m : Int
  imm : Int
def In.C (k : In) : Array Value := #[.int .i64 k.op, .int .i64 k.n, .int .i64 k.m, .int .i64 k.imm]
def In.enc (k : In) : Int := Isa.encI k.op k.n k.m k.imm
def In.ok (k : In) : Prop := Isa.wrongI k.op k.n k.m k.imm = 0
def encsB (ks : List In) : List UInt8 := ks.flatMap fun k => half k.enc
/-- Instructions that lie in memory. -/
def InsR (w : World) (ad : Option Addr) (ks : List In) : Prop := 0 < ks.length → ∃ b o, ad = some ⟨b, o, none⟩ ∧ b < w.heap.size ∧ ∀ i (h : i < ks.length), w.cell? ⟨b, o + i * 4, none⟩ = some (.int .i64 ks[i].op) ∧ w.cell? ⟨b, o + i * 4 + 1, none⟩ = some (.int .i64 ks[i].n) ∧ w.cell? ⟨b, o + i * 4 + 2, none⟩ = some (.int .i64 ks[i].m) ∧ w.cell? ⟨b, o + i * 4 + 3, none⟩ = some (.int .i64 ks[i].imm)

set_option maxHeartbeats 4000000 in
theorem encoded_any (ks : List In) (ad : Option Addr) (cap : Nat) (w : World) (hL : Isa.Laid w) (hr : InsR w ad ks) (hok : ∀ k, k ∈ ks → k.ok) (hn : ks.length ≤ 1000) :
    Calls Tryz.prog 199 #[.slice ad ks.length cap] w fun r w' => (∃ cv, r = .returned (.tuple #[cv, .int .i64 0]) ∧ Out w' w.heap.size cv (encsB ks)) ∧ Below w.heap.size w w' := by
  have HL := Lib.hid hL
  have HR := Lib.hid hr
  have HOK := Lib.hid hok
  have hm2 : ∀ W, (Instr.makeSlice 31 (.int .i64 2) (.int .i64 2)).run Tryz.prog W = .ok (.slice (some ⟨W.heap.size, 0, none⟩) 2 2) (W.alloc (.cells (madeCells #[.int .u8 0] 2) 5)) := fun W => makeB 2 (by omega) W
  clear hL hr hok
  have HEN := Lib.hid fun (k : In) W (hb : Below w.heap.size w W) => Isa.encode_any k.op k.n k.m k.imm W (HL.out.below hb HL.out.sz)
  have HPU : Hid (∀ n W g, g < W.heap.size → (∀ i, i < 2 → W.cell? ⟨g, i, none⟩ = some (.int .u8 0)) → Calls Tryz.prog 64 #[.slice (some ⟨g, 0, none⟩) 2 2, .int .i64 0, .int .i64 2, .int .i64 n] W fun e w' => ∃ q, e = .returned (.slice (some ⟨q, 0, none⟩) 2 2) ∧ OBytes w' (.slice (some ⟨q, 0, none⟩) 2 2) (half n) ∧ Below W.heap.size W w') := fun n W g hg hc => by
    refine (Isa.put_any (some ⟨g, 0, none⟩) 2 2 (fun _ => 0) 0 2 n W (by omega) (fun _ => ⟨g, 0, rfl, fun i hi => by rw [Nat.zero_add]; exact hc i hi⟩) (by omega) (by omega) (by omega) (by omega)).mono ?_
    rintro e w' ⟨rfl, hb, hlt, hcell⟩
    exact ⟨_, rfl, putB (n := n) (.inr (.inl rfl)) hlt hcell, hb⟩
  go_enter Tryz.func199, Tryz.ntmps199
  go_wp2_with fail
  go_loopw [4, 11] (fun ov iv wr => ∃ k : Nat, k ≤ ks.length ∧ iv = .int .i64 k ∧ Hid (Out wr w.heap.size ov (encsB (ks.take k))) ∧ Hid (Below w.heap.size w wr)) (fun _ iv _ => ks.length - (intOf iv).toNat)
  case atStart => exact ⟨0, Nat.zero_le _, rfl, ⟨World.ownsRow_nil _ _ _ _, Nat.le_refl _⟩, Below.refl _ _⟩
  case round =>
    obtain ⟨k, hk, rfl, HO, HB⟩ := hrel
    by_cases hlt : k < ks.length
    · have hk' : (k : Int) < ks.length := by omega
      obtain ⟨b, o, rfl, hbl, hcell⟩ := HR.out (by omega)
      obtain ⟨r0, r1, r2, r3⟩ := hcell k hlt
      rw [← HB.out.cell (by exact hbl)] at r0 r1 r2 r3
      have hbr : b < wr.heap.size := Nat.lt_of_lt_of_le hbl HB.out.size
      obtain ⟨x, hx⟩ : ∃ x, ks[k]'hlt = x := ⟨_, rfl⟩
      have hxo : x.ok := HOK.out x (by rw [← hx]; exact List.getElem_mem _)
      have HT : Hid (encsB (ks.take (k + 1)) = encsB (ks.take k) ++ half x.enc) := by
        unfold Hid
        rw [List.take_succ_eq_append_getElem hlt, hx]
        simp [encsB]
      rw [hx] at r0 r1 r2 r3
      have HEX := Lib.hid fun W hb => HEN.out x W hb
      obtain ⟨op, n, m, imm⟩ := x
      simp only [In.enc] at HT
      simp only at r0 r1 r2 r3 HEX
      have hw0 : Isa.wrongI op n m imm = 0 := hxo
      have hew : Isa.encW op n m imm = Isa.encI op n m imm := by unfold Isa.encW; rw [if_pos hw0]
      generalize Isa.encI op n m imm = E at *
      clear hx hcell hxo
      go_wp2_with fail
      refine (HEX.out _ (HB.out.alloc HB.out.size _)).mono ?_
      rintro e w1 ⟨rfl, hb1⟩
      rw [hw0, hew]
      have hB1 : Below wr.heap.size wr w1 := (oalloc _ _).trans (hb1.mono (by simp))
      have HB1 := Lib.hid (HB.out.trans (hB1.mono HB.out.size))
      have HO1 := Lib.hid (HO.out.below hB1 (Nat.le_refl _))
      have HP1 := Lib.hid fun W hg hc => HPU.out E W w1.heap.size hg hc
      obtain ⟨oa, oc, hov⟩ := row_shape HO.out.1
      subst hov
      have HZ : Hid (∀ i, i < 2 → (w1.alloc (.cells (madeCells #[.int .u8 0] 2) 5)).cell? ⟨w1.heap.size, i, none⟩ = some (.int .u8 0)) := fun i hi => (World.rowIs_made w1 (.int .u8 0) 2 5).cell hi
      clear hb1 hB1 HEX HPU HEN hew hw0
      go_wp2_with fail
      refine (HP1.out _ (by simp) HZ.out).mono ?_
      rintro e w2 ⟨q, rfl, hob, hb2⟩
      have hB2 : Below w1.heap.size w1 w2 := (oalloc _ _).trans (hb2.mono (by simp))
      have HB2 := Lib.hid (HB1.out.trans (hB2.mono HB1.out.size))
      have hO2 := HO1.out.below hB2 (Nat.le_refl _)
      have hlen : (encsB (ks.take k)).length ≤ 2 * k := by
        have e1 : ∀ l : List In, (encsB l).length = 2 * l.length := fun l => by
          induction l with
          | nil => rfl
          | cons a r ih => simp only [encsB, List.flatMap_cons, List.length_append, List.length_cons] at ih ⊢; rw [ih]; simp [half]; omega
        rw [e1]; simp; omega
      obtain ⟨v', w3, happ, hO3, hg3⟩ := app_obytes hO2 hob (by simp [half]; omega)
      have HO3 := Lib.hid hO3
      have HB3 : Hid (Below w.heap.size w w3) := hO2.grown HB2.out hg3 (Nat.le_refl _)
      have HA := Lib.hid happ
      clear hob hb2 hB2 hO2 hO3 hg3 HZ HP1 happ
      go_wp2_with (first | (at_builtin; refine wpList_app_eq rfl _ _ _ _ rfl _ _ rfl rfl HA.out ?_) | fail)
      exact ⟨⟨k + 1, by omega, by go_num, Lib.hid (by rw [HT.out]; exact HO3.out), HB3⟩, by simp [intOf]; omega⟩
    · obtain rfl : k = ks.length := by omega
      have hk' : ¬ ((ks.length : Nat) : Int) < ks.length := by omega
      go_wp2
      go_ret2
      have := HO.out
      rw [List.take_length] at this
      exact ⟨⟨_, rfl, this⟩, HB.out⟩

theorem In.okB {k : In} {b : List UInt8} (h : encU k.op k.n k.m k.imm = .ok b) : k.ok ∧ b = half k.enc := by
  unfold encU at h
  split at h
  · next h0 => injection h with h; exact ⟨h0, h.symm⟩
  · exact absurd h (by simp)

/-- One instruction whole. -/
theorem encoded_one (k : In) (g : Nat) (b : List UInt8) (w : World) (hL : Isa.Laid w) (hg : w.heap[g]? = some (.cells k.C 71 (0, 0))) (hok : encU k.op k.n k.m k.imm = .ok b) :
    Calls Tryz.prog 199 #[.slice (some ⟨g, 0, none⟩) 1 1] w fun r w' => (∃ ca cl cc, r = .returned (.tuple #[.slice ca cl cc, .int .i64 0]) ∧ OBytes w' (.slice ca cl cc) b) ∧ Below w.heap.size w w' := by
  obtain ⟨h1, rfl⟩ := In.okB hok
  refine (encoded_any [k] (some ⟨g, 0, none⟩) 1 w hL (fun _ => ⟨g, 0, rfl, blk_lt hg, fun i hi => ?_⟩) (by simpa using h1) (by simp)).mono ?_
  · obtain rfl : i = 0 := by simpa using hi
    exact ⟨blk_cell hg rfl, blk_cell hg rfl, blk_cell hg rfl, blk_cell hg rfl⟩
  · rintro r w' ⟨⟨cv, rfl, ho⟩, hb⟩
    obtain ⟨ca, cc, rfl⟩ := row_shape ho.1
    exact ⟨⟨_, _, _, rfl, by simpa [encsB] using ho.bytes (by simp [encsB, half]; decide)⟩, hb⟩

theorem plain1_any (k : In) (gi : Nat) (p s : Int) (b : List UInt8) (w : World) (hL : Isa.Laid w) (hg : w.heap[gi]? = some (.cells k.C 71 (0, 0))) (hok : encU k.op k.n k.m k.imm = .ok b) :
    Calls Tryz.prog 205 #[.int .i64 p, .int .i64 s, .pointer (some ⟨gi, 0, none⟩)] w fun r w' => (∃ ca cl cc, r = .returned (.tuple #[.slice ca cl cc, .int .i64 0]) ∧ OBytes w' (.slice ca cl cc) b) ∧ Below w.heap.size w w' := by
  have HE := Lib.hid fun W (hb : Below w.heap.size w W) g (hq : W.heap[g]? = some (.cells k.C 71 (0, 0))) => encoded_one k g b W (hL.below hb hL.sz) hq hok
  obtain ⟨op, n, m, imm⟩ := k
  have c0 : w.cell? ⟨gi, 0, none⟩ = some (.int .i64 op) := blk_cell hg rfl
  have c1 : w.cell? ⟨gi, 1, none⟩ = some (.int .i64 n) := blk_cell hg rfl
  have c2 : w.cell? ⟨gi, 2, none⟩ = some (.int .i64 m) := blk_cell hg rfl
  have c3 : w.cell? ⟨gi, 3, none⟩ = some (.int .i64 imm) := blk_cell hg rfl
  have hgi := blk_lt hg
  clear hL hg hok
  go_enter Tryz.func205, Tryz.ntmps205
  go_wp2_with fail
  refine (HE.out _ (oalloc _ _) _ (new_at _ _ rfl)).mono ?_
  rintro e w1 ⟨⟨ca, cl, cc, rfl, hob⟩, hb1⟩
  have HOB := Lib.hid hob
  have HB1 : Hid (Below w.heap.size w w1) := (oalloc _ _).trans (hb1.mono (by simp))
  clear hob hb1 HE
  go_wp2
  go_ret2
  exact ⟨⟨ca, cl, cc, rfl, HOB.out⟩, HB1.out⟩

theorem led_any (op n m imm p q d : Int) (w : World) (hL : Isa.Laid w) (h0 : 0 ≤ p) (h1 : p ≤ 1000000) (h2 : -1000000000000 ≤ q) (h3 : q ≤ 1000000000000) (h : ledU op p q = .ok d) :
    Calls Tryz.prog 198 #[.agg #[.int .i64 op, .int .i64 n, .int .i64 m, .int .i64 imm], .int .i64 p, .int .i64 q] w fun r w' => r = .returned (.tuple #[.agg #[.int .i64 op, .int .i64 n, .int .i64 m, .int .i64 d], .int .i64 0]) ∧ Below w.heap.size w w' := by
  have HI := Lib.hid fun W (hb : Below w.heap.size w W) => Isa.info_any op W (hL.below hb hL.sz)
  have HA := Lib.hid fun W => away_any (Isa.infoShape op) p q W h0 h1 h2 h3
  have hs : (awayU (Isa.infoShape op) p q).2 = 4 ∨ (awayU (Isa.infoShape op) p q).2 = 2 := by
    unfold awayU
    split
    · exact .inl rfl
    · exact .inr rfl
  have hb : -2000000000000 ≤ (awayU (Isa.infoShape op) p q).1 ∧ (awayU (Isa.infoShape op) p q).1 ≤ 2000000000000 := by
    unfold awayU
    split
    · have := Int.tmod_nonneg 4 (show 0 ≤ p + 4 by omega)
      have := Int.tmod_lt_of_pos (p + 4) (show (0 : Int) < 4 by omega)
      constructor <;> simp only [] <;> omega
    · constructor <;> simp only [] <;> omega
  unfold ledU at h
  generalize (awayU (Isa.infoShape op) p q).1 = x at *
  generalize (awayU (Isa.infoShape op) p q).2 = s at *
  generalize Isa.infoShape op = sh at *
  generalize Isa.infoName op = nm at *
  have hx0 : x.tmod s = 0 := by
    by_cases e : x.tmod s = 0
    · exact e
    · rw [if_pos e] at h; exact absurd h (by simp)
  rw [if_neg (by simpa using hx0)] at h
  injection h with h
  have hd : wrap64 d = d := by
    have := Int.mul_tdiv_add_tmod x s
    rw [hx0, h] at this
    unfold wrap64
    rcases hs with rfl | rfl <;> omega
  clear hL
  rcases hs with rfl | rfl
  all_goals
    have hx1 : (x.tmod _ == 0) = true := beq_iff_eq.2 hx0
    go_enter Tryz.func198, Tryz.ntmps198
    go_wp2_with fail
    refine (HI.out _ (by go_grown)).mono ?_
    rintro e w1 ⟨rfl, hb1⟩
    have x0 : w1.heap[w.heap.size]? = some (.cells #[.int .i64 op, .int .i64 n, .int .i64 m, .int .i64 imm] 71 (0, 0)) := by
      rw [hb1.block _ (by go_size), old2 _ _ (by go_size)]
      exact new_at _ _ rfl
    have x1 : w1.heap[w.heap.size + 1]? = some (.cells #[.int .i64 0, .int .i64 0, .int .i64 0, .int .i64 0] 71 (0, 0)) := by
      rw [hb1.block _ (by go_size)]
      exact new_at _ _ (by go_size)
    have HB1 : Hid (Below w.heap.size w w1) := Below.trans (by go_grown) (hb1.mono (by go_size))
    obtain ⟨⟨⟨u0, u1⟩, u2, u3⟩, ⟨f0, f1⟩, f2, f3⟩ := var4_of x0
    obtain ⟨⟨⟨v0, v1⟩, v2, v3⟩, ⟨g0, g1⟩, g2, g3⟩ := var4_of x1
    have hz1 := blk_lt x1
    clear hb1 x0 x1 HI
    go_wp2_with (first | (go_at_call 227; refine (HA.out _).mono ?_; rintro e w2 ⟨rfl, rfl⟩) | fail)
    rw [hd]
    exact bodyPost_ret (v := .tuple #[.agg #[.int .i64 op, .int .i64 n, .int .i64 m, .int .i64 d], .int .i64 0]) (by simp [results, Tryz.results198, go_sem, v0, v1, v2, v3]) rfl ⟨rfl, ((((HB1.out.setCell (Nat.le_refl _) _).setCell (Nat.le_succ _) _).setCell (Nat.le_succ _) _).setCell (Nat.le_succ _) _).setCell (Nat.le_succ _) _⟩

end Go.Proofs.YtgjmbjahgcndnaaGreatDoor

namespace Go.Proofs.YtgjmbjahgcndnaaGreatDoor
open Go.RowKit

/-- What stays as it is while a unit is written. -/
structure SU where
  gu : Nat
  gp : Nat
  mb : Nat
  n : Nat
  e : Value
  nv : Value
  iv : Value
  pp : Value
  ln : Int
  labs : List (List UInt8 × Nat)
  ps : List Int
  firsts : Nat → Nat

structure S0 (x : SU) (w : World) : Prop where
  pl : PlR w x.gp x.n (x.n + 1) x.ps
  lb : LbR w x.mb x.labs
  laid : Isa.Laid w
  hi : max 1 4 < x.gu
  nn : x.n ≤ 100000
  bd : ∀ k, 0 ≤ x.ps.getD k 0 ∧ x.ps.getD k 0 ≤ 1000000
  lab : ∀ nm k, labelAt nm x.labs = some k → k ≤ x.n

def Re.cells (r : Re) : List Value := [.int .i64 r.pos, .int .i64 r.size, .string ⟨r.name.toArray⟩, .int .i64 r.add]
def rcells (l : List Re) : List Value := l.flatMap Re.cells
def SU.C (x : SU) (rv : Value) : Array Value := uC x.e x.ln x.nv (.map (some x.mb)) x.iv x.pp (.slice (some ⟨x.gp, 0, none⟩) (x.n + 1) (x.n + 1)) rv

/-- The unit while it is written: its relocs. -/
structure WS (x : SU) (w W : World) (rv : Value) (rs : List Re) : Prop where
  st : S0 x w
  fr : Fr x.gu w.heap.size w W
  ub : ∃ c, w.heap[x.gu]? = some (.cells c 141 (0, 0))
  box : W.heap[x.gu]? = some (.cells (x.C rv) 141 (0, 0))
  rel : W.ownsRow w.heap.size 120 4 rv rs.length (rcells rs)

/-- Blocks but two are as they were. -/
structure Ch (g : Nat) (o : Option Nat) (W W' : World) : Prop where
  os : W'.os = W.os
  tape : W'.tape = W.tape
  output : W'.output = W.output
  size : W.heap.size ≤ W'.heap.size
  block : ∀ i, i < W.heap.size → i ≠ g → some i ≠ o → W'.heap[i]? = W.heap[i]?
theorem Ch.of {g : Nat} {o : Option Nat} {W W' : World} (h : Below W.heap.size W W') : Ch g o W W' := ⟨h.os, h.tape, h.output, h.size, fun i hi _ _ => h.block i hi⟩

theorem Fr.lowd {g B : Nat} {w w' : World} (h : Fr g B w w') (hg : g ≤ B) : Below g w w' := ⟨h.os, h.tape, h.output, h.size, fun i hi => h.block i (by omega) (by omega)⟩

section
variable {x : SU} {w W W' : World} {rv : Value} {rs : List Re}
theorem WS.go (h : WS x w W rv rs) (hb : Below W.heap.size W W') : WS x w W' rv rs :=
  ⟨h.st, h.fr.trans (Fr.below (hb.mono h.fr.size)), h.ub, by rw [hb.block _ (blk_lt h.box)]; exact h.box, Sc.owns_below h.rel hb (Nat.le_refl _)⟩
theorem WS.keep (h : WS x w W rv rs) {q : Nat} {o : Obj} (hq : w.heap[q]? = some o) (hne : q ≠ x.gu) : W.heap[q]? = some o := by rw [h.fr.block q (blk_lt hq) hne]; exact hq
theorem S0.go (h : S0 x w) (hf : Fr x.gu w.heap.size w W) (hu : ∃ c, w.heap[x.gu]? = some (.cells c 141 (0, 0))) : S0 x W := by
  obtain ⟨c, hu⟩ := hu
  have hne : ∀ {q : Nat} {o : Obj}, w.heap[q]? = some o → (∀ c', o ≠ .cells c' 141 (0, 0)) → W.heap[q]? = some o := by
    intro q o hq ho
    rw [hf.block q (blk_lt hq) (by rintro rfl; rw [hu] at hq; injection hq with hq; exact ho _ hq.symm)]
    exact hq
  refine ⟨?_, ?_, h.laid.below (hf.lowd (Nat.le_of_lt (blk_lt hu))) h.hi, h.hi, h.nn, h.bd, h.lab⟩
  · obtain ⟨cs, k1, k2⟩ := h.pl
    exact ⟨cs, hne k1 (by intro c' e; injection e with _ e2; exact absurd e2 (by decide)), k2⟩
  · obtain ⟨D, ⟨es, clock, hb, F⟩, hd⟩ := h.lb
    exact ⟨D, ⟨es, clock, hne hb (by intro c' e; cases e), F⟩, hd⟩
theorem WS.s0 (h : WS x w W rv rs) : S0 x W := h.st.go h.fr h.ub
theorem WS.lt (h : WS x w W rv rs) : x.gu < w.heap.size := by obtain ⟨c, hc⟩ := h.ub; exact blk_lt hc
end

set_option maxHeartbeats 1000000 in
theorem ask1_any (x : SU) (rv : Value) (gb gq gi g i : Nat) (vv mv : Value) (w : World) (hs : S0 x w) (hu : w.heap[x.gu]? = some (.cells (x.C rv) 141 (0, 0))) (hb : w.heap[gb]? = some (.cells #[.pointer (some ⟨x.gu, 0, none⟩)] 185 (0, 0))) (hq : w.heap[gq]? = some (.cells #[.pointer (some ⟨g, 0, none⟩)] 137 (0, 0))) (hi : w.heap[gi]? = some (.cells #[.int .i64 i] 3 (0, 0)))
    (hg : w.heap[g]? = some (.cells #[.int .i64 (x.firsts g), vv, mv] 184 (0, 0))) (hk : x.firsts g + i ≤ x.n) :
    Calls Tryz.prog 202 #[.pointer (some ⟨gb, 0, none⟩), .pointer (some ⟨gq, 0, none⟩), .pointer (some ⟨gi, 0, none⟩)] w fun r w' => r = .returned (.tuple #[.int .i64 (x.ps.getD (x.firsts g + i) 0), .int .i64 0]) ∧ Below w.heap.size w w' := by
  have c6 : w.cell? ⟨x.gu, 6, none⟩ = some (.slice (some ⟨x.gp, 0, none⟩) (x.n + 1) (x.n + 1)) := blk_cell hu rfl
  have cb : w.cell? ⟨gb, 0, none⟩ = some (.pointer (some ⟨x.gu, 0, none⟩)) := blk_cell hb rfl
  have cq : w.cell? ⟨gq, 0, none⟩ = some (.pointer (some ⟨g, 0, none⟩)) := blk_cell hq rfl
  have ci : w.cell? ⟨gi, 0, none⟩ = some (.int .i64 i) := blk_cell hi rfl
  have cg : w.cell? ⟨g, 0, none⟩ = some (.int .i64 (x.firsts g)) := blk_cell hg rfl
  have z1 := blk_lt hu
  have z2 := blk_lt hb
  have z3 := blk_lt hq
  have z4 := blk_lt hi
  have z5 := blk_lt hg
  have hn := hs.nn
  obtain ⟨z, hz⟩ : ∃ z, x.ps.getD (x.firsts g + i) 0 = z := ⟨_, rfl⟩
  have cp : w.cell? ⟨x.gp, x.firsts g + i, none⟩ = some (.int .i64 z) := by obtain ⟨cs, k1, _, _, k4⟩ := hs.pl; rw [← hz]; exact blk_cell k1 (k4 _ (by omega))
  have z6 : x.gp < w.heap.size := by obtain ⟨cs, k1, _⟩ := hs.pl; exact blk_lt k1
  rw [hz]
  generalize x.firsts g = F at *
  obtain ⟨N, hN⟩ : ∃ N, F + i = N := ⟨_, rfl⟩
  have hN2 : (F : Int) + (i : Int) = N := by omega
  rw [hN] at cp hk
  clear hs hu hb hq hi hg hz
  go_enter Tryz.func202, Tryz.ntmps202
  go_wp2_with fail
  go_quiet (fail)
  all_goals go_wp2_with fail
  all_goals
    go_ret2
    exact ⟨rfl, below_drewN (Below.refl _ _) _⟩

set_option maxHeartbeats 1000000 in
theorem instr1_any (x : SU) (rv : Value) (gb gl b len c k : Nat) (cur : Array Value) (kd : ByteArray) (r add : Int) (nm : List UInt8) (w : World) (hs : S0 x w) (hu : w.heap[x.gu]? = some (.cells (x.C rv) 141 (0, 0))) (hb : w.heap[gb]? = some (.cells #[.pointer (some ⟨x.gu, 0, none⟩)] 185 (0, 0))) (hl : w.heap[gl]? = some (.cells #[.slice (some ⟨b, 0, none⟩) (len + 1) c] 191 (0, 0)))
    (hc : w.heap[b]? = some (.cells cur 235 (0, 0))) (q0 : cur[0]? = some (.string kd)) (q1 : cur[1]? = some (.int .i64 r)) (q2 : cur[2]? = some (.string ⟨nm.toArray⟩)) (q3 : cur[3]? = some (.int .i64 add)) (hn : nm ≠ []) (hnl : nm.length ≤ maxLen) (hk : labelAt nm x.labs = some k) (h2 : -1000000000000 ≤ add) (h3 : add ≤ 1000000000000) :
    Calls Tryz.prog 172 #[.pointer (some ⟨gb, 0, none⟩), .pointer (some ⟨gl, 0, none⟩)] w fun e w' => e = .returned (.tuple #[.int .i64 (x.ps.getD k 0 + add), .int .i64 0]) ∧ Below w.heap.size w w' := by
  have HP := Lib.hid fun W (hb : Below w.heap.size w W) => placeOf_found x.gu x.gp x.mb k x.n x.e x.nv x.iv x.pp rv x.ln add nm x.labs x.ps W (by rw [hb.block _ (blk_lt hu)]; exact hu) (hs.lb.go hb) (hs.pl.go hb) hn hnl hk (hs.lab nm k hk) hs.nn (hs.bd k).1 (hs.bd k).2 h2 h3
  have cb : w.cell? ⟨gb, 0, none⟩ = some (.pointer (some ⟨x.gu, 0, none⟩)) := blk_cell hb rfl
  have cl : w.cell? ⟨gl, 0, none⟩ = some (.slice (some ⟨b, 0, none⟩) (len + 1) c) := blk_cell hl rfl
  have c0 : w.cell? ⟨b, 0, none⟩ = some (.string kd) := blk_cell hc q0
  have c1 : w.cell? ⟨b, 1, none⟩ = some (.int .i64 r) := blk_cell hc q1
  have c2 : w.cell? ⟨b, 2, none⟩ = some (.string ⟨nm.toArray⟩) := blk_cell hc q2
  have c3 : w.cell? ⟨b, 3, none⟩ = some (.int .i64 add) := blk_cell hc q3
  have z2 := blk_lt hb
  have z3 := blk_lt hl
  have z4 := blk_lt hc
  clear hs hu hb hl hc
  generalize x.ps.getD k 0 + add = z at *
  go_enter Tryz.func172, Tryz.ntmps172
  go_wp2_with fail
  go_region_with (go_at_call 137; refine (HP.out _ (by repeat' first | exact Below.refl _ _ | apply Below.drew)).mono ?_; rintro e w1 ⟨rfl, hb1⟩)
  all_goals go_wp2
  all_goals go_ret2
  all_goals exact ⟨rfl, Below.trans (by repeat' first | exact Below.refl _ _ | apply Below.drew) hb1⟩

end Go.Proofs.YtgjmbjahgcndnaaGreatDoor

namespace Go.Proofs.YtgjmbjahgcndnaaGreatDoor
open Go.RowKit Go.Maps Go.MapKept

/-- The names of labels, as a row. -/
def nameC (l : List (List UInt8 × Nat)) : List Value := l.map fun a => .string ⟨a.1.toArray⟩
theorem infoStr : (Tryz.prog.info? 9).map (fun i => (i.zero, i.size, i.bytes)) = some (some (.string ⟨#[]⟩), 1, 16) := by kernel_rfl

/-- All blocks but three are as they were. -/
structure Ch3 (a b : Nat) (o : Option Nat) (W W' : World) : Prop where
  os : W'.os = W.os
  tape : W'.tape = W.tape
  output : W'.output = W.output
  size : W.heap.size ≤ W'.heap.size
  block : ∀ i, i < W.heap.size → i ≠ a → i ≠ b → some i ≠ o → W'.heap[i]? = W.heap[i]?

/-- Next of a text that lies in an elder world. -/
theorem next_at (v : Value) (ts : List Tk) (w0 w : World) (h : PReads w0 v ts) (hb : Below w0.heap.size w0 w) :
    Calls Tryz.prog 90 #[v] w fun r w' => (∃ v', r = .returned (.tuple #[(headT ts).V, v']) ∧ PReads w0 v' ts.tail) ∧ Below w.heap.size w w' := by
  obtain ⟨ad, cap, rfl, hc, hm, h⟩ := h
  cases ts with
  | nil =>
    refine (next_nil ad cap w).mono ?_
    rintro e w' ⟨rfl, hb⟩
    exact ⟨⟨_, rfl, PReads.nil w0⟩, hb⟩
  | cons x r =>
    obtain ⟨b, o, rfl, hlt, hcell⟩ := h (by simp)
    obtain ⟨cap, rfl⟩ : ∃ c, cap = c + 1 := ⟨cap - 1, by simp at hc; omega⟩
    have c := hcell 0 (by simp)
    simp only [Nat.zero_mul, Nat.add_zero, List.getElem_cons_zero] at c
    rw [← hb.cell (by exact hlt), ← hb.cell (by exact hlt), ← hb.cell (by exact hlt), ← hb.cell (by exact hlt)] at c
    have hc' : r.length ≤ cap := by simpa using hc
    refine (next_cons b o r.length cap x.k x.n x.t w _ (Lib.hid rfl) hc' hm (Nat.lt_of_lt_of_le hlt hb.size) c.1 c.2.1 c.2.2.1 c.2.2.2).mono ?_
    rintro e w' ⟨rfl, hb⟩
    refine ⟨⟨_, rfl, _, cap, rfl, hc', by omega, fun h0 => ?_⟩, hb⟩
    have h0' : 0 < r.length := h0
    refine ⟨b, o + 4, by rw [if_neg (by omega)], hlt, fun i hi => ?_⟩
    have hi' : i < r.length := hi
    have := hcell (i + 1) (by simp; omega)
    simp only [List.getElem_cons_succ] at this
    rw [show o + (i + 1) * 4 = o + 4 + i * 4 by omega] at this
    exact this

set_option maxHeartbeats 8000000 in
set_option maxRecDepth 100000 in
theorem labels_one (gu B mb : Nat) (ln : Int) (nv pp pv rv : Value) (its : List It) (labs : List (List UInt8 × Nat)) (nm : List UInt8) (n m : Int) (rest : List Tk) (v : Value) (w0 w : World) (h00 : Below w0.heap.size w0 w) (hgu0 : w0.heap.size ≤ gu) (hmb0 : w0.heap.size ≤ mb) (h : PReads w0 v (⟨1, n, ⟨nm.toArray⟩⟩ :: ⟨3, m, ⟨#[58]⟩⟩ :: rest)) (hl : labelled rest = false)
    (hU : UR w B gu (.slice none 0 0) ln nv (.map (some mb)) pp pv rv its) (hN : w.ownsRow B 9 1 nv labs.length (nameC labs)) (hM : LbR w mb labs) (hk : labelAt nm labs = none) (hnl : nm.length ≤ maxLen) (hG : Sc.Glob w) (hr : regU 1 nm < 0) (hname : Xp.nameR nm = true) (hits : its.length ≤ 100000) (hlen : labs.length ≤ 100000) :
    Calls Tryz.prog 89 #[.pointer (some ⟨gu, 0, none⟩), v] w fun r w' => ∃ v' nv', r = .returned (.tuple #[v', .int .i64 0]) ∧ PReads w0 v' rest ∧ Below w0.heap.size w0 w' ∧ UR w' B gu (.slice none 0 0) ln nv' (.map (some mb)) pp pv rv its ∧ w'.ownsRow B 9 1 nv' (labs.length + 1) (nameC (labs ++ [(nm, its.length)])) ∧ LbR w' mb (labs ++ [(nm, its.length)]) ∧ Ch3 gu mb nv.ownBlock w w' := by
  have HN1 := Lib.hid fun W (hb : Below w.heap.size w W) => next_at v (⟨1, n, ⟨nm.toArray⟩⟩ :: ⟨3, m, ⟨#[58]⟩⟩ :: rest) w0 W h (h00.trans (hb.mono h00.size))
  have HN2 := Lib.hid fun v' W (hb : Below w.heap.size w W) (hv : PReads w0 v' (⟨3, m, ⟨#[58]⟩⟩ :: rest)) => next_at v' (⟨3, m, ⟨#[58]⟩⟩ :: rest) w0 W hv (h00.trans (hb.mono h00.size))
  obtain ⟨⟨xk, xn, xt⟩, hx⟩ : ∃ x, headT rest = x := ⟨_, rfl⟩
  obtain ⟨tl, htl⟩ : ∃ tl, rest.tail = tl := ⟨_, rfl⟩
  obtain ⟨⟨yk, yn, yt⟩, hy⟩ : ∃ y, headT tl = y := ⟨_, rfl⟩
  have HN3 : Hid (∀ v' W, Below w0.heap.size w0 W → PReads w0 v' rest → Calls Tryz.prog 90 #[v'] W fun r w' => (∃ v2, r = .returned (.tuple #[tokV xk xn xt, v2]) ∧ PReads w0 v2 tl) ∧ Below W.heap.size W w') := fun v' W hb hv => by
    have := next_at v' rest w0 W hv hb
    rwa [hx, htl] at this
  have HN4 : Hid (∀ v' W, Below w0.heap.size w0 W → PReads w0 v' tl → Calls Tryz.prog 90 #[v'] W fun r w' => (∃ v2, r = .returned (.tuple #[tokV yk yn yt, v2]) ∧ PReads w0 v2 tl.tail) ∧ Below W.heap.size W w') := fun v' W hb hv => by
    have := next_at v' tl w0 W hv hb
    rwa [hy] at this
  obtain ⟨p1, hp1⟩ : ∃ p1, (xk == 1) = p1 := ⟨_, rfl⟩
  obtain ⟨p2, hp2⟩ : ∃ p2, (yk == 3 && yt.toList == [58]) = p2 := ⟨_, rfl⟩
  have HW3 : Hid (∀ W, Calls Tryz.prog 91 #[tokV xk xn xt] W fun r w' => r = .returned (.bool p1) ∧ Below W.heap.size W w') := fun W => by
    have := aword_any xk xn xt W
    rwa [hp1] at this
  have HS3 : Hid (∀ W, Calls Tryz.prog 125 #[tokV yk yn yt, .string ⟨#[58]⟩] W fun r w' => r = .returned (.bool p2) ∧ Below W.heap.size W w') := fun W => by
    have := asign_any yk yn yt ⟨#[58]⟩ W
    rwa [show (⟨#[58]⟩ : ByteArray).toList = [58] by simp [ByteArray.toList_eq], hp2] at this
  have HLB : Hid ((p1 && p2) = false) := by
    have := hl
    unfold labelled at this
    rw [hx, htl, hy] at this
    simp only [hp1, hp2] at this
    exact this
  clear hx hy hp1 hp2 htl
  have H00 := Lib.hid h00
  have HW1 := Lib.hid fun W => aword_any 1 n ⟨nm.toArray⟩ W
  have HS1 : Hid (∀ W, Calls Tryz.prog 125 #[tokV 3 m ⟨#[58]⟩, .string ⟨#[58]⟩] W fun r w' => r = .returned (.bool true) ∧ Below W.heap.size W w') := fun W => by
    have := asign_any 3 m ⟨#[58]⟩ ⟨#[58]⟩ W
    rwa [show ((3 : Int) == 3 && (⟨#[58]⟩ : ByteArray).toList == (⟨#[58]⟩ : ByteArray).toList) = true by simp] at this
  obtain ⟨ad, cap, rfl, _⟩ := h
  obtain ⟨iv, il, u1, u2, u3, u4⟩ := id hU.its
  have c0 : w.cell? ⟨gu, 0, none⟩ = some (.slice none 0 0) := blk_cell u1 rfl
  have c3 : w.cell? ⟨gu, 3, none⟩ = some (.map (some mb)) := blk_cell u1 rfl
  have hg := blk_lt u1
  have HFR := Lib.hid fun W (hb : Below w.heap.size w W) => free_yes gu mb n nm labs W (by rw [hb.cell (by exact hg)]; exact c0) (by rw [hb.cell (by exact hg)]; exact c3) (hM.go hb) hk hnl (hG.below hb hG.sz) hr hname
  have HU := Lib.hid hU
  have HNR := Lib.hid hN
  have HM := Lib.hid hM
  clear hU hN hM hG hname hr u1 u2 u3 u4 h00 hl
  unfold Tk.V tokV headT at *
  simp only [List.length_cons, List.tail_cons] at *
  go_enter Tryz.func89, Tryz.ntmps89
  go_wp2_with fail
  refine wp_loop_rounds 2 ?_
  rw [rounds_succ]
  go_wp2_with fail
  refine (HN1.out _ (Below.refl _ _)).mono ?_
  rintro e w1 ⟨⟨v1, rfl, hv1⟩, hb1⟩
  obtain ⟨ad1, cap1, rfl, _⟩ := id hv1
  have HV1 := Lib.hid hv1
  have HB1 := Lib.hid hb1
  clear hv1 hb1 HN1
  go_wp2_with fail
  refine (HN2.out _ _ (HB1.out.alloc HB1.out.size _) HV1.out).mono ?_
  rintro e w2 ⟨⟨v2, rfl, hv2⟩, hb2⟩
  obtain ⟨hB2, hz2, xr⟩ := box_keep hb2
  have HV2 := Lib.hid hv2
  obtain ⟨ad2, cap2, rfl, _⟩ := id hv2
  have t0 : w2.cell? ⟨w1.heap.size, 0, none⟩ = some (.int .i64 1) := blk_cell xr rfl
  have t1 : w2.cell? ⟨w1.heap.size, 1, none⟩ = some (.int .i64 n) := blk_cell xr rfl
  have t2 : w2.cell? ⟨w1.heap.size, 2, none⟩ = some (.string ⟨nm.toArray⟩) := blk_cell xr rfl
  have HB2 := Lib.hid (HB1.out.trans (hB2.mono HB1.out.size))
  have HZ1 := Lib.hid (Nat.lt_of_lt_of_le hg HB1.out.size)
  have XR := Lib.hid xr
  clear hv2 hb2 hB2 xr HB1 HN2 HV1
  go_wp2_with fail
  refine (HW1.out _).mono ?_
  rintro e w3 ⟨rfl, hb3⟩
  obtain ⟨hB3, hz3, yr⟩ := box_keep hb3
  have s0 : w3.cell? ⟨w2.heap.size, 0, none⟩ = some (.int .i64 3) := blk_cell yr rfl
  have s1 : w3.cell? ⟨w2.heap.size, 1, none⟩ = some (.int .i64 m) := blk_cell yr rfl
  have s2 : w3.cell? ⟨w2.heap.size, 2, none⟩ = some (.string ⟨#[58]⟩) := blk_cell yr rfl
  have HB3 := Lib.hid (HB2.out.trans (hB3.mono HB2.out.size))
  have HV3 := HV2
  have XR3 := Lib.hid ((hB3.block _ hz2).trans XR.out)
  clear hb3 hB3 yr HB2 HV2 XR HW1 t0 t1 t2
  go_wp2_with fail
  refine (HS1.out _).mono ?_
  rintro e w4 ⟨rfl, hb4⟩
  have HB4 := Lib.hid (HB3.out.trans (hb4.mono HB3.out.size))
  have HV4 := HV3
  have XR4 := Lib.hid ((hb4.block _ (blk_lt XR3.out)).trans XR3.out)
  have t0 : w4.cell? ⟨w1.heap.size, 0, none⟩ = some (.int .i64 1) := blk_cell XR4.out rfl
  have t1 : w4.cell? ⟨w1.heap.size, 1, none⟩ = some (.int .i64 n) := blk_cell XR4.out rfl
  have t2 : w4.cell? ⟨w1.heap.size, 2, none⟩ = some (.string ⟨nm.toArray⟩) := blk_cell XR4.out rfl
  clear hb4 HB3 HV3 XR3 HS1 s0 s1 s2
  go_wp2_with fail
  refine (HFR.out _ HB4.out).mono ?_
  rintro e w5 ⟨rfl, hb5⟩
  have HB5 := Lib.hid (HB4.out.trans (hb5.mono HB4.out.size))
  have HV5 := HV4
  have XR5 := Lib.hid ((hb5.block _ (blk_lt XR4.out)).trans XR4.out)
  have HU5 := Lib.hid (HU.out.go HB5.out)
  have HM5 := Lib.hid (HM.out.go HB5.out)
  have HN5 := Lib.hid (Sc.owns_below HNR.out HB5.out (Nat.le_refl _))
  clear hb5 HB4 HV4 XR4 HFR t0 t1 t2
  go_wp2_with fail
  obtain ⟨iv5, il5, k1, k2, k3, k4⟩ := id HU5.out.its
  obtain ⟨ia, ic, hiv⟩ := row_shape k2
  subst hiv
  obtain ⟨na, nc, hnv⟩ := row_shape HN5.out
  subst hnv
  obtain ⟨D, hmo, hmd⟩ := id HM5.out
  obtain ⟨W6, hup, hown6, hg6⟩ := World.ownsMap.update (w := w5.drew) hmo lawS Tryz.underlying89 (by unfold maxLen; omega) (strKey hnl) (plainElem_int Tryz.underlying3 (by simp [Lit.wf, IntKind.min, IntKind.max, IntKind.bits, IntKind.signed]; omega : (Lit.int .i64 ((its.length : Nat) : Int)).wf = true))
  have hmb : ∃ es ck, w5.heap[mb]? = some (.map es ck) := by obtain ⟨es, ck, hb, _⟩ := hmo; exact ⟨es, ck, hb⟩
  have kp6 : ∀ {q : Nat} {c : Array Value} {t : TypeId}, w5.heap[q]? = some (.cells c t (0, 0)) → W6.heap[q]? = some (.cells c t (0, 0)) := fun {q c t} hq => (hg6.block q (blk_lt hq) (by intro e; injection e with e; subst e; obtain ⟨es, ck, hb⟩ := hmb; rw [hb] at hq; cases hq)).trans hq
  have HM6 : Hid (LbR W6 mb (labs ++ [(nm, its.length)])) := ⟨_, by rw [List.length_append]; exact hown6, hmd.snoc hk⟩
  have X1 := Lib.hid k1
  have HG6 := Lib.hid hg6
  have hS5 : w5.heap[gu]? = _ ∧ w5.heap[w1.heap.size]? = _ := ⟨k1, XR5.out⟩
  have hS6 := And.intro (kp6 k1) (kp6 XR5.out)
  have KP6 : Hid (∀ (q : Nat) (c : Array Value) (t : TypeId), w5.heap[q]? = some (.cells c t (0, 0)) → W6.heap[q]? = some (.cells c t (0, 0))) := fun q c t h => kp6 h
  clear kp6 hown6 hg6 hmo k1
  refine wp_region_noPanic ?_
  refine wp_region_held_drew (S := fun X => X.heap[gu]? = some (.cells (uC (.slice none 0 0) ln (.slice na labs.length nc) (.map (some mb)) (.slice ia its.length ic) pp pv rv) 141 (0, 0)) ∧ X.heap[w1.heap.size]? = some (.cells #[.int .i64 1, .int .i64 n, .string ⟨nm.toArray⟩] 171 (0, 0))) (by kernel_rfl) hS5 (fun hHeld => ?_)
  clear hS5
  refine take_at 0 32 (v := ?_) rfl rfl (by kernel_rfl) (by kernel_rfl) (by kernel_rfl) (fun _ _ _ h => h) rfl ?_ hHeld ?_
  rotate_left
  · intro w hSw
    go_simp
    try with_reducible rfl
  simp only [List.setIfInBounds_toArray, List.set_cons_zero, List.set_cons_succ]
  refine take_at 1 33 (v := ?_) rfl rfl (by kernel_rfl) (by kernel_rfl) (by kernel_rfl) (fun _ _ _ h => h) rfl ?_ hHeld ?_
  rotate_left
  · intro w hSw
    go_simp
    try with_reducible rfl
  simp only [List.setIfInBounds_toArray, List.set_cons_zero, List.set_cons_succ]
  refine take_at 2 34 (v := ?_) rfl rfl (by kernel_rfl) (by kernel_rfl) (by kernel_rfl) (fun _ _ _ h => h) rfl ?_ hHeld ?_
  rotate_left
  · intro w hSw
    go_simp
    try with_reducible rfl
  simp only [List.setIfInBounds_toArray, List.set_cons_zero, List.set_cons_succ]
  refine take_at 3 35 (v := ?_) rfl rfl (by kernel_rfl) (by kernel_rfl) (by kernel_rfl) (fun _ _ _ h => h) rfl ?_ hHeld ?_
  rotate_left
  · intro w hSw
    have y3 : w.cell? ⟨gu, 3, none⟩ = some (.map (some mb)) := blk_cell hSw.1 rfl
    go_simp
    try with_reducible rfl
  simp only [List.setIfInBounds_toArray, List.set_cons_zero, List.set_cons_succ]
  refine take_at 4 36 (v := ?_) rfl rfl (by kernel_rfl) (by kernel_rfl) (by kernel_rfl) (fun _ _ _ h => h) rfl ?_ hHeld ?_
  rotate_left
  · intro w hSw
    go_simp
    try with_reducible rfl
  simp only [List.setIfInBounds_toArray, List.set_cons_zero, List.set_cons_succ]
  refine take_at 5 37 (v := ?_) rfl rfl (by kernel_rfl) (by kernel_rfl) (by kernel_rfl) (fun _ _ _ h => h) rfl ?_ hHeld ?_
  rotate_left
  · intro w hSw
    have yt : w.cell? ⟨w1.heap.size, 2, none⟩ = some (.string ⟨nm.toArray⟩) := blk_cell hSw.2 rfl
    go_simp
    try with_reducible rfl
  simp only [List.setIfInBounds_toArray, List.set_cons_zero, List.set_cons_succ]
  refine take_at 6 38 (v := ?_) rfl rfl (by kernel_rfl) (by kernel_rfl) (by kernel_rfl) (fun _ _ _ h => h) rfl ?_ hHeld ?_
  rotate_left
  · intro w hSw
    go_simp
    try with_reducible rfl
  simp only [List.setIfInBounds_toArray, List.set_cons_zero, List.set_cons_succ]
  refine take_at 7 39 (v := ?_) rfl rfl (by kernel_rfl) (by kernel_rfl) (by kernel_rfl) (fun _ _ _ h => h) rfl ?_ hHeld ?_
  rotate_left
  · intro w hSw
    go_simp
    try with_reducible rfl
  simp only [List.setIfInBounds_toArray, List.set_cons_zero, List.set_cons_succ]
  refine take_at 8 40 (v := ?_) rfl rfl (by kernel_rfl) (by kernel_rfl) (by kernel_rfl) (fun _ _ _ h => h) rfl ?_ hHeld ?_
  rotate_left
  · intro w hSw
    go_simp
    try with_reducible rfl
  simp only [List.setIfInBounds_toArray, List.set_cons_zero, List.set_cons_succ]
  refine take_at 9 41 (v := ?_) rfl rfl (by kernel_rfl) (by kernel_rfl) (by kernel_rfl) (fun _ _ _ h => h) rfl ?_ hHeld ?_
  rotate_left
  · intro w hSw
    have y4 : w.cell? ⟨gu, 4, none⟩ = some (.slice ia its.length ic) := blk_cell hSw.1 rfl
    go_simp
    try with_reducible rfl
  simp only [List.setIfInBounds_toArray, List.set_cons_zero, List.set_cons_succ]
  refine take_at 10 42 (v := ?_) rfl rfl (by kernel_rfl) (by kernel_rfl) (by kernel_rfl) (fun _ _ _ h => h) rfl ?_ hHeld ?_
  rotate_left
  · intro w hSw
    go_simp
    try with_reducible rfl
  simp only [List.setIfInBounds_toArray, List.set_cons_zero, List.set_cons_succ]
  refine wpAnyH_ready (rs := [11]) (by kernel_rfl) (by simp) ?_
  refine AllReadyH.cons rfl (fun K hK => ?_) AllReadyH.nil
  go_simp
  refine hK.out _ _ hS6 (fun hHeld => ?_)
  clear hK K hS6 hup
  refine wpAnyH_done (by kernel_rfl) ?_ _
  refine NoPanic.normal ?_
  go_wp2_with fail
  obtain ⟨V0, hV0⟩ : ∃ X, X = W6.drew := ⟨_, rfl⟩
  have hz6 : w5.heap.size ≤ W6.heap.size := HG6.out.size
  have hzB : B ≤ W6.heap.size := Nat.le_trans HU5.out.le hz6
  have hrow6 : W6.ownsRow B 9 1 (.slice na labs.length nc) labs.length (nameC labs) := World.ownsRow.kept (w := w5.drew) HN5.out HG6.out (by obtain ⟨es, ck, hb⟩ := hmb; exact .inr (fun e => row_map HN5.out hb e.symm))
  have HR6 := Lib.hid hrow6
  have hS0 : V0.heap[w1.heap.size]? = some (.cells #[.int .i64 1, .int .i64 n, .string ⟨nm.toArray⟩] 171 (0, 0)) := by rw [hV0]; exact hHeld.2
  have HUB0 : Hid (V0.heap[gu]? = some (.cells (uC (.slice none 0 0) ln (.slice na labs.length nc) (.map (some mb)) (.slice ia its.length ic) pp pv rv) 141 (0, 0))) := by rw [hV0]; exact hHeld.1
  have hR0 : V0.ownsRow B 9 1 (.slice na labs.length nc) labs.length (nameC labs) := by rw [hV0]; exact hrow6
  have HR0 := Lib.hid hR0
  have HV0 := Lib.hid hV0
  have HZV : Hid (V0.heap.size = W6.heap.size) := by rw [hV0]; rfl
  refine wp_region_noPanic ?_
  refine wp_region_held_drew (S := fun X => X.heap[w1.heap.size]? = some (.cells #[.int .i64 1, .int .i64 n, .string ⟨nm.toArray⟩] 171 (0, 0))) (by kernel_rfl) hHeld.2 (fun hHeld => ?_)
  rw [← hV0] at hHeld ⊢
  clear hV0 hrow6 hR0 hS0
  refine take_at 0 43 (v := ?_) rfl rfl (by kernel_rfl) (by kernel_rfl) (by kernel_rfl) (fun _ _ _ h => h) rfl ?_ hHeld ?_
  rotate_left
  · intro w hSw
    go_simp
    try with_reducible rfl
  simp only [List.setIfInBounds_toArray, List.set_cons_zero, List.set_cons_succ]
  refine take_at 1 44 (v := ?_) rfl rfl (by kernel_rfl) (by kernel_rfl) (by kernel_rfl) (fun _ _ _ h => h) rfl ?_ hHeld ?_
  rotate_left
  · intro w hSw
    go_simp
    try with_reducible rfl
  simp only [List.setIfInBounds_toArray, List.set_cons_zero, List.set_cons_succ]
  refine take_at 2 45 (v := ?_) rfl rfl (by kernel_rfl) (by kernel_rfl) (by kernel_rfl) (fun _ _ _ h => h) rfl ?_ hHeld ?_
  rotate_left
  · intro w hSw
    go_simp
    try with_reducible rfl
  simp only [List.setIfInBounds_toArray, List.set_cons_zero, List.set_cons_succ]
  refine take_at 3 46 (v := ?_) rfl rfl (by kernel_rfl) (by kernel_rfl) (by kernel_rfl) (fun _ _ _ h => h) rfl ?_ hHeld ?_
  rotate_left
  · intro w hSw
    go_simp
    try with_reducible rfl
  simp only [List.setIfInBounds_toArray, List.set_cons_zero, List.set_cons_succ]
  refine take_at 5 48 (v := ?_) rfl rfl (by kernel_rfl) (by kernel_rfl) (by kernel_rfl) (fun _ _ _ h => h) rfl ?_ hHeld ?_
  rotate_left
  · intro w hSw
    go_simp
    try with_reducible rfl
  simp only [List.setIfInBounds_toArray, List.set_cons_zero, List.set_cons_succ]
  refine take_at 6 49 (v := ?_) rfl rfl (by kernel_rfl) (by kernel_rfl) (by kernel_rfl) (fun _ _ _ h => h) rfl ?_ hHeld ?_
  rotate_left
  · intro w hSw
    have yt : w.cell? ⟨w1.heap.size, 2, none⟩ = some (.string ⟨nm.toArray⟩) := blk_cell hSw rfl
    go_simp
    try with_reducible rfl
  simp only [List.setIfInBounds_toArray, List.set_cons_zero, List.set_cons_succ]
  refine wpAnyH_ready (rs := [4, 7]) (by kernel_rfl) (by simp) ?_
  refine AllReadyH.cons rfl (fun K hK => ?_) (AllReadyH.cons rfl (fun K hK => ?_) AllReadyH.nil)
  · have xl : V0.cell? ⟨gu, 2, none⟩ = some (.slice na labs.length nc) := blk_cell HUB0.out rfl
    go_simp
    refine hK.out _ _ hHeld (fun hHeld => ?_)
    clear hK K xl
    refine wpAnyH_ready (rs := [7]) (by kernel_rfl) (by simp) ?_
    refine AllReadyH.cons rfl (fun K hK => ?_) AllReadyH.nil
    go_simp
    generalize hWn : World.alloc V0 _ = V1
    have hbl1 : Below V0.heap.size V0 V1 := by rw [← hWn]; exact oalloc _ _
    have HUB1 := Lib.hid ((hbl1.block _ (blk_lt HUB0.out)).trans HUB0.out)
    have HR1 := Lib.hid (Sc.owns_below HR0.out hbl1 (Nat.le_refl _))
    have hzz := hbl1.size
    have HBN : Hid (V1.heap[V0.heap.size]? = some (.cells #[.string ⟨nm.toArray⟩] 9 (0, 0))) := by unfold Hid; rw [← hWn]; exact blk_new V0 _ _
    have HBL := Lib.hid hbl1
    have hT1 := (hbl1.block _ (blk_lt hHeld)).trans hHeld
    refine hK.out _ _ hT1 (fun hHeld => ?_)
    clear hK K hWn hbl1 hT1
    refine wpAnyH_ready (rs := [8]) (by kernel_rfl) (by simp) ?_
    refine AllReadyH.cons rfl (fun K hK => ?_) AllReadyH.nil
    obtain ⟨v', W3, happ, hr', hgr⟩ := app1 29 9 _ 1 16 Tryz.underlying29 infoStr rfl (by decide) (by decide) HR1.out (by have := HZV.out; omega) [.string ⟨nm.toArray⟩] rfl V0.heap.size HBN.out (by intro u hu; simp at hu; subst hu; rfl) (by omega)
    obtain ⟨ta, tc, rfl⟩ := row_shape hr'
    have HA := Lib.hid happ
    have kp3 : ∀ (q : Nat) (c : Array Value) (t : TypeId), V1.heap[q]? = some (.cells c t (0, 0)) → t ≠ 9 → W3.heap[q]? = some (.cells c t (0, 0)) := fun q c t hq ht => (hgr.block q (blk_lt hq) (row_box HR1.out hq ht)).trans hq
    have hub3 := kp3 _ _ _ HUB1.out (by decide)
    have hT3 := kp3 _ _ _ hHeld (by decide)
    have y2 : W3.cell? ⟨gu, 2, none⟩ = some (.slice na labs.length nc) := blk_cell hub3 rfl
    have yf : W3.frozen? ⟨gu, 2, none⟩ = false := blk_froz hub3
    have yz := blk_lt hub3
    have hne1 : w1.heap.size ≠ gu := by have := HZ1.out; omega
    have HFIN : Hid (UR (W3.setCell ⟨gu, 2, none⟩ (.slice ta (labs.length + 1) tc)) B gu (.slice none 0 0) ln (.slice ta (labs.length + 1) tc) (.map (some mb)) pp pv rv its ∧ (W3.setCell ⟨gu, 2, none⟩ (.slice ta (labs.length + 1) tc)).ownsRow B 9 1 (.slice ta (labs.length + 1) tc) (labs.length + 1) (nameC (labs ++ [(nm, its.length)])) ∧ LbR (W3.setCell ⟨gu, 2, none⟩ (.slice ta (labs.length + 1) tc)) mb (labs ++ [(nm, its.length)]) ∧ Ch3 gu mb (Value.slice na labs.length nc).ownBlock w (W3.setCell ⟨gu, 2, none⟩ (.slice ta (labs.length + 1) tc)) ∧ Below w0.heap.size w0 (W3.setCell ⟨gu, 2, none⟩ (.slice ta (labs.length + 1) tc))) := by
      have hV0 := HV0.out
      have hz1 := HZV.out
      have hz2 := HB5.out.size
      have hmbV : ∃ es ck, V1.heap[mb]? = some (.map es ck) := by
        obtain ⟨D', ⟨es, ck, hb, _⟩, _⟩ := HM6.out
        have hb0 : V0.heap[mb]? = some (.map es ck) := by rw [hV0]; exact hb
        exact ⟨es, ck, (HBL.out.block _ (blk_lt hb0)).trans hb0⟩
      have hguB := HU5.out.lt
      have hgm : gu ≠ mb := by
        rintro rfl
        obtain ⟨es, ck, hb⟩ := hmbV
        rw [HUB1.out] at hb
        cases hb
      have hchain : ∀ i, i < w.heap.size → i ≠ gu → i ≠ mb → some i ≠ (Value.slice na labs.length nc).ownBlock → (W3.setCell ⟨gu, 2, none⟩ (.slice ta (labs.length + 1) tc)).heap[i]? = w.heap[i]? := fun i hi h1 h2 h3 => by
        have hi5 : i < w5.heap.size := by omega
        have hi0 : i < V0.heap.size := by rw [hz1]; omega
        rw [Below.heap_setCell _ _ _ _ h1, hgr.block i (by omega) h3, HBL.out.block i hi0, hV0]
        show W6.heap[i]? = _
        rw [HG6.out.block i hi5 (by intro e; injection e with e; exact h2 e)]
        exact HB5.out.block i hi
      have hCh : Ch3 gu mb (Value.slice na labs.length nc).ownBlock w (W3.setCell ⟨gu, 2, none⟩ (.slice ta (labs.length + 1) tc)) := by
        have hS := gset W3 gu 2 (.slice ta (labs.length + 1) tc)
        have e0 : V0.os = w.os ∧ V0.tape = w.tape ∧ V0.output = w.output := by rw [hV0]; exact ⟨HG6.out.os.trans HB5.out.os, HG6.out.tape.trans HB5.out.tape, HG6.out.output.trans HB5.out.output⟩
        refine ⟨hS.os.trans (hgr.os.trans (HBL.out.os.trans e0.1)), hS.tape.trans (hgr.tape.trans (HBL.out.tape.trans e0.2.1)), hS.output.trans (hgr.output.trans (HBL.out.output.trans e0.2.2)), ?_, hchain⟩
        have := hgr.size
        have := HBL.out.size
        simp
        omega
      have hrowI : W3.ownsRow B 198 6 (.slice ia its.length ic) its.length (itC il5) := by
        have r6 : W6.ownsRow B 198 6 (.slice ia its.length ic) its.length (itC il5) := World.ownsRow.kept (w := w5.drew) k2 HG6.out (by obtain ⟨es, ck, hb⟩ := hmb; exact .inr (fun e => row_map k2 hb e.symm))
        have r0 : V0.ownsRow B 198 6 (.slice ia its.length ic) its.length (itC il5) := by rw [hV0]; exact r6
        have r1 := Sc.owns_below r0 HBL.out (Nat.le_refl _)
        exact r1.kept hgr (row_apart HR1.out r1 (by decide))
      refine ⟨⟨hguB, ?_, _, il5, blk_set hub3, row_set hrowI hguB, k3, fun p hp => (k4 p hp).stays fun {q c t} hq ht => ?_⟩, ?_, ?_, hCh, ?_⟩
      · have := hgr.size
        have := HU5.out.le
        simp
        omega
      · have q6 := KP6.out q c t hq
        have q0 : V0.heap[q]? = some (.cells c t (0, 0)) := by rw [hV0]; exact q6
        have q1 := (HBL.out.block _ (blk_lt q0)).trans q0
        have q3 := kp3 q c t q1 (by rintro rfl; exact absurd ht (by decide))
        rw [Below.heap_setCell _ _ _ _ (by
          show q ≠ gu
          rintro rfl
          rw [X1.out] at hq
          injection hq with hq
          injection hq with _ e2
          subst e2
          exact absurd ht (by decide))]
        exact q3
      · have e1 : nameC (labs ++ [(nm, its.length)]) = nameC labs ++ [.string ⟨nm.toArray⟩] := by simp [nameC]
        rw [e1]
        exact row_set hr' hguB
      · have m0 : LbR V0 mb (labs ++ [(nm, its.length)]) := by rw [hV0]; exact HM6.out
        have m1 := m0.go HBL.out
        obtain ⟨es, ck, hb⟩ := hmbV
        have m3 := m1.grown hgr (fun e => row_map HR1.out hb e.symm)
        exact m3.grown (gset W3 gu 2 _) (by intro e; injection e with e; exact hgm e)
      · refine ⟨hCh.os.trans H00.out.os, hCh.tape.trans H00.out.tape, hCh.output.trans H00.out.output, Nat.le_trans H00.out.size hCh.size, fun i hi => ?_⟩
        rw [hchain i (Nat.lt_of_lt_of_le hi H00.out.size) (by omega) (by omega) (fun e => by have := (HN5.out.lt i e.symm).1; omega)]
        exact H00.out.block i hi
    refine step_app_eq (by rfl) 51 (by rfl) _ _ _ _ (by rfl) _ _ (by rfl) (by rfl) HA.out ?_
    simp only [List.setIfInBounds_toArray, List.set_cons_zero, List.set_cons_succ]
    refine hK.out _ _ hT3 (fun hHeld => ?_)
    clear hK K HA
    refine take_at 9 52 (v := ?_) rfl rfl (by kernel_rfl) (by kernel_rfl) (by kernel_rfl) (fun _ _ _ h => h) rfl ?_ hHeld ?_
    rotate_left
    · intro w hSw
      go_simp
      try with_reducible rfl
    simp only [List.setIfInBounds_toArray, List.set_cons_zero, List.set_cons_succ]
    refine take_at 10 53 (v := ?_) rfl rfl (by kernel_rfl) (by kernel_rfl) (by kernel_rfl) (fun _ _ _ h => h) rfl ?_ hHeld ?_
    rotate_left
    · intro w hSw
      go_simp
      try with_reducible rfl
    simp only [List.setIfInBounds_toArray, List.set_cons_zero, List.set_cons_succ]
    refine wpAnyH_ready (rs := [11]) (by kernel_rfl) (by simp) ?_
    refine AllReadyH.cons rfl (fun K hK => ?_) AllReadyH.nil
    go_simp
    refine hK.out _ _ (by rw [Below.heap_setCell _ _ _ _ hne1]; exact hHeld) (fun _ => ?_)
    clear hK K y2 yf hHeld hT3
    refine wpAnyH_done (by kernel_rfl) ?_ _
    refine NoPanic.normal ?_
    clear hr' hgr kp3 hub3 HR1 HUB1 HBL HBN
    go_wp2_with fail
    obtain ⟨Wf, hWf⟩ : ∃ X, X = W3.setCell ⟨gu, 2, none⟩ (.slice ta (labs.length + 1) tc) := ⟨_, rfl⟩
    rw [← hWf] at HFIN ⊢
    clear hWf
    obtain ⟨hF1, hF2, hF3, hF4, hF5⟩ := HFIN.out
    have HF5 := Lib.hid hF5
    have HFA : Hid (∀ W', Below Wf.heap.size Wf W' → ∃ v' nv', Ending.returned (.tuple #[.slice ad2 rest.length cap2, .int .i64 0]) = .returned (.tuple #[v', .int .i64 0]) ∧ PReads w0 v' rest ∧ Below w0.heap.size w0 W' ∧ UR W' B gu (.slice none 0 0) ln nv' (.map (some mb)) pp pv rv its ∧ W'.ownsRow B 9 1 nv' (labs.length + 1) (nameC (labs ++ [(nm, its.length)])) ∧ LbR W' mb (labs ++ [(nm, its.length)]) ∧ Ch3 gu mb (Value.slice na labs.length nc).ownBlock w W') := fun W' hb =>
      ⟨_, _, rfl, HV5.out, hF5.trans (hb.mono hF5.size), hF1.go hb, Sc.owns_below hF2 hb (Nat.le_refl _), hF3.go hb, ⟨hb.os.trans hF4.os, hb.tape.trans hF4.tape, hb.output.trans hF4.output, Nat.le_trans hF4.size hb.size, fun i hi h1 h2 h3 => by rw [hb.block i (Nat.lt_of_lt_of_le hi hF4.size)]; exact hF4.block i hi h1 h2 h3⟩⟩
    clear hF1 hF2 hF3 hF4 hF5 HFIN HR0 HUB0 HR6 KP6 HG6 HM6
    rw [rounds_succ]
    go_wp2_with fail
    refine (HN3.out _ _ HF5.out HV5.out).mono ?_
    rintro e z1 ⟨⟨v1, rfl, hv1⟩, hb1⟩
    obtain ⟨ad1', cap1', rfl, _⟩ := id hv1
    have HY1 := Lib.hid hv1
    have HZ2 := Lib.hid hb1
    have HZ0 := Lib.hid (HF5.out.trans (HZ2.out.mono HF5.out.size))
    clear hv1 hb1
    go_wp2_with fail
    refine (HN4.out _ _ (HZ0.out.alloc HZ0.out.size _) HY1.out).mono ?_
    rintro e z2 ⟨⟨v2, rfl, hv2⟩, hb2⟩
    obtain ⟨ad3, cap3, rfl, _⟩ := hv2
    obtain ⟨hB2, hy2, xr⟩ := box_keep hb2
    have t0 : z2.cell? ⟨z1.heap.size, 0, none⟩ = some (.int .i64 xk) := blk_cell xr rfl
    have t1 : z2.cell? ⟨z1.heap.size, 1, none⟩ = some (.int .i64 xn) := blk_cell xr rfl
    have t2 : z2.cell? ⟨z1.heap.size, 2, none⟩ = some (.string xt) := blk_cell xr rfl
    have HQ2 := Lib.hid (HZ2.out.trans (hB2.mono HZ2.out.size))
    clear hb2 hB2 xr HZ2 HY1
    cases p1
    · go_wp2_with fail
      refine (HW3.out _).mono ?_
      rintro e z3 ⟨rfl, hb3⟩
      have HQ3 := Lib.hid (((HQ2.out.alloc HQ2.out.size _)).trans (hb3.mono (by have := HQ2.out.size; simp; omega)))
      clear hb3
      go_wp2_with fail
      go_ret2
      exact HFA.out _ HQ3.out
    · have hp2 : p2 = false := by simpa using HLB.out
      subst hp2
      go_wp2_with fail
      refine (HW3.out _).mono ?_
      rintro e z3 ⟨rfl, hb3⟩
      obtain ⟨hB3, hy3, yr⟩ := box_keep hb3
      have s0 : z3.cell? ⟨z2.heap.size, 0, none⟩ = some (.int .i64 yk) := blk_cell yr rfl
      have s1 : z3.cell? ⟨z2.heap.size, 1, none⟩ = some (.int .i64 yn) := blk_cell yr rfl
      have s2 : z3.cell? ⟨z2.heap.size, 2, none⟩ = some (.string yt) := blk_cell yr rfl
      have HQ3 := Lib.hid (HQ2.out.trans (hB3.mono HQ2.out.size))
      clear hb3 hB3 yr
      go_wp2_with fail
      refine (HS3.out _).mono ?_
      rintro e z4 ⟨rfl, hb4⟩
      have HQ4 := Lib.hid (HQ3.out.trans (hb4.mono HQ3.out.size))
      clear hb4
      go_wp2_with fail
      go_ret2
      exact HFA.out _ HQ4.out
  · go_simp
    generalize hWn : World.alloc V0 _ = V1
    have hbl1 : Below V0.heap.size V0 V1 := by rw [← hWn]; exact oalloc _ _
    have HUB1 := Lib.hid ((hbl1.block _ (blk_lt HUB0.out)).trans HUB0.out)
    have HR1 := Lib.hid (Sc.owns_below HR0.out hbl1 (Nat.le_refl _))
    have hzz := hbl1.size
    have HBN : Hid (V1.heap[V0.heap.size]? = some (.cells #[.string ⟨nm.toArray⟩] 9 (0, 0))) := by unfold Hid; rw [← hWn]; exact blk_new V0 _ _
    have HBL := Lib.hid hbl1
    have hT1 := (hbl1.block _ (blk_lt hHeld)).trans hHeld
    refine hK.out _ _ hT1 (fun hHeld => ?_)
    clear hK K hWn hbl1 hT1
    refine wpAnyH_ready (rs := [4]) (by kernel_rfl) (by simp) ?_
    refine AllReadyH.cons rfl (fun K hK => ?_) AllReadyH.nil
    have xl : V1.cell? ⟨gu, 2, none⟩ = some (.slice na labs.length nc) := blk_cell HUB1.out rfl
    go_simp
    refine hK.out _ _ hHeld (fun hHeld => ?_)
    clear hK K xl
    refine wpAnyH_ready (rs := [8]) (by kernel_rfl) (by simp) ?_
    refine AllReadyH.cons rfl (fun K hK => ?_) AllReadyH.nil
    obtain ⟨v', W3, happ, hr', hgr⟩ := app1 29 9 _ 1 16 Tryz.underlying29 infoStr rfl (by decide) (by decide) HR1.out (by have := HZV.out; omega) [.string ⟨nm.toArray⟩] rfl V0.heap.size HBN.out (by intro u hu; simp at hu; subst hu; rfl) (by omega)
    obtain ⟨ta, tc, rfl⟩ := row_shape hr'
    have HA := Lib.hid happ
    have kp3 : ∀ (q : Nat) (c : Array Value) (t : TypeId), V1.heap[q]? = some (.cells c t (0, 0)) → t ≠ 9 → W3.heap[q]? = some (.cells c t (0, 0)) := fun q c t hq ht => (hgr.block q (blk_lt hq) (row_box HR1.out hq ht)).trans hq
    have hub3 := kp3 _ _ _ HUB1.out (by decide)
    have hT3 := kp3 _ _ _ hHeld (by decide)
    have y2 : W3.cell? ⟨gu, 2, none⟩ = some (.slice na labs.length nc) := blk_cell hub3 rfl
    have yf : W3.frozen? ⟨gu, 2, none⟩ = false := blk_froz hub3
    have yz := blk_lt hub3
    have hne1 : w1.heap.size ≠ gu := by have := HZ1.out; omega
    have HFIN : Hid (UR (W3.setCell ⟨gu, 2, none⟩ (.slice ta (labs.length + 1) tc)) B gu (.slice none 0 0) ln (.slice ta (labs.length + 1) tc) (.map (some mb)) pp pv rv its ∧ (W3.setCell ⟨gu, 2, none⟩ (.slice ta (labs.length + 1) tc)).ownsRow B 9 1 (.slice ta (labs.length + 1) tc) (labs.length + 1) (nameC (labs ++ [(nm, its.length)])) ∧ LbR (W3.setCell ⟨gu, 2, none⟩ (.slice ta (labs.length + 1) tc)) mb (labs ++ [(nm, its.length)]) ∧ Ch3 gu mb (Value.slice na labs.length nc).ownBlock w (W3.setCell ⟨gu, 2, none⟩ (.slice ta (labs.length + 1) tc)) ∧ Below w0.heap.size w0 (W3.setCell ⟨gu, 2, none⟩ (.slice ta (labs.length + 1) tc))) := by
      have hV0 := HV0.out
      have hz1 := HZV.out
      have hz2 := HB5.out.size
      have hmbV : ∃ es ck, V1.heap[mb]? = some (.map es ck) := by
        obtain ⟨D', ⟨es, ck, hb, _⟩, _⟩ := HM6.out
        have hb0 : V0.heap[mb]? = some (.map es ck) := by rw [hV0]; exact hb
        exact ⟨es, ck, (HBL.out.block _ (blk_lt hb0)).trans hb0⟩
      have hguB := HU5.out.lt
      have hgm : gu ≠ mb := by
        rintro rfl
        obtain ⟨es, ck, hb⟩ := hmbV
        rw [HUB1.out] at hb
        cases hb
      have hchain : ∀ i, i < w.heap.size → i ≠ gu → i ≠ mb → some i ≠ (Value.slice na labs.length nc).ownBlock → (W3.setCell ⟨gu, 2, none⟩ (.slice ta (labs.length + 1) tc)).heap[i]? = w.heap[i]? := fun i hi h1 h2 h3 => by
        have hi5 : i < w5.heap.size := by omega
        have hi0 : i < V0.heap.size := by rw [hz1]; omega
        rw [Below.heap_setCell _ _ _ _ h1, hgr.block i (by omega) h3, HBL.out.block i hi0, hV0]
        show W6.heap[i]? = _
        rw [HG6.out.block i hi5 (by intro e; injection e with e; exact h2 e)]
        exact HB5.out.block i hi
      have hCh : Ch3 gu mb (Value.slice na labs.length nc).ownBlock w (W3.setCell ⟨gu, 2, none⟩ (.slice ta (labs.length + 1) tc)) := by
        have hS := gset W3 gu 2 (.slice ta (labs.length + 1) tc)
        have e0 : V0.os = w.os ∧ V0.tape = w.tape ∧ V0.output = w.output := by rw [hV0]; exact ⟨HG6.out.os.trans HB5.out.os, HG6.out.tape.trans HB5.out.tape, HG6.out.output.trans HB5.out.output⟩
        refine ⟨hS.os.trans (hgr.os.trans (HBL.out.os.trans e0.1)), hS.tape.trans (hgr.tape.trans (HBL.out.tape.trans e0.2.1)), hS.output.trans (hgr.output.trans (HBL.out.output.trans e0.2.2)), ?_, hchain⟩
        have := hgr.size
        have := HBL.out.size
        simp
        omega
      have hrowI : W3.ownsRow B 198 6 (.slice ia its.length ic) its.length (itC il5) := by
        have r6 : W6.ownsRow B 198 6 (.slice ia its.length ic) its.length (itC il5) := World.ownsRow.kept (w := w5.drew) k2 HG6.out (by obtain ⟨es, ck, hb⟩ := hmb; exact .inr (fun e => row_map k2 hb e.symm))
        have r0 : V0.ownsRow B 198 6 (.slice ia its.length ic) its.length (itC il5) := by rw [hV0]; exact r6
        have r1 := Sc.owns_below r0 HBL.out (Nat.le_refl _)
        exact r1.kept hgr (row_apart HR1.out r1 (by decide))
      refine ⟨⟨hguB, ?_, _, il5, blk_set hub3, row_set hrowI hguB, k3, fun p hp => (k4 p hp).stays fun {q c t} hq ht => ?_⟩, ?_, ?_, hCh, ?_⟩
      · have := hgr.size
        have := HU5.out.le
        simp
        omega
      · have q6 := KP6.out q c t hq
        have q0 : V0.heap[q]? = some (.cells c t (0, 0)) := by rw [hV0]; exact q6
        have q1 := (HBL.out.block _ (blk_lt q0)).trans q0
        have q3 := kp3 q c t q1 (by rintro rfl; exact absurd ht (by decide))
        rw [Below.heap_setCell _ _ _ _ (by
          show q ≠ gu
          rintro rfl
          rw [X1.out] at hq
          injection hq with hq
          injection hq with _ e2
          subst e2
          exact absurd ht (by decide))]
        exact q3
      · have e1 : nameC (labs ++ [(nm, its.length)]) = nameC labs ++ [.string ⟨nm.toArray⟩] := by simp [nameC]
        rw [e1]
        exact row_set hr' hguB
      · have m0 : LbR V0 mb (labs ++ [(nm, its.length)]) := by rw [hV0]; exact HM6.out
        have m1 := m0.go HBL.out
        obtain ⟨es, ck, hb⟩ := hmbV
        have m3 := m1.grown hgr (fun e => row_map HR1.out hb e.symm)
        exact m3.grown (gset W3 gu 2 _) (by intro e; injection e with e; exact hgm e)
      · refine ⟨hCh.os.trans H00.out.os, hCh.tape.trans H00.out.tape, hCh.output.trans H00.out.output, Nat.le_trans H00.out.size hCh.size, fun i hi => ?_⟩
        rw [hchain i (Nat.lt_of_lt_of_le hi H00.out.size) (by omega) (by omega) (fun e => by have := (HN5.out.lt i e.symm).1; omega)]
        exact H00.out.block i hi
    refine step_app_eq (by rfl) 51 (by rfl) _ _ _ _ (by rfl) _ _ (by rfl) (by rfl) HA.out ?_
    simp only [List.setIfInBounds_toArray, List.set_cons_zero, List.set_cons_succ]
    refine hK.out _ _ hT3 (fun hHeld => ?_)
    clear hK K HA
    refine take_at 9 52 (v := ?_) rfl rfl (by kernel_rfl) (by kernel_rfl) (by kernel_rfl) (fun _ _ _ h => h) rfl ?_ hHeld ?_
    rotate_left
    · intro w hSw
      go_simp
      try with_reducible rfl
    simp only [List.setIfInBounds_toArray, List.set_cons_zero, List.set_cons_succ]
    refine take_at 10 53 (v := ?_) rfl rfl (by kernel_rfl) (by kernel_rfl) (by kernel_rfl) (fun _ _ _ h => h) rfl ?_ hHeld ?_
    rotate_left
    · intro w hSw
      go_simp
      try with_reducible rfl
    simp only [List.setIfInBounds_toArray, List.set_cons_zero, List.set_cons_succ]
    refine wpAnyH_ready (rs := [11]) (by kernel_rfl) (by simp) ?_
    refine AllReadyH.cons rfl (fun K hK => ?_) AllReadyH.nil
    go_simp
    refine hK.out _ _ (by rw [Below.heap_setCell _ _ _ _ hne1]; exact hHeld) (fun _ => ?_)
    clear hK K y2 yf hHeld hT3
    refine wpAnyH_done (by kernel_rfl) ?_ _
    refine NoPanic.normal ?_
    clear hr' hgr kp3 hub3 HR1 HUB1 HBL HBN
    go_wp2_with fail
    obtain ⟨Wf, hWf⟩ : ∃ X, X = W3.setCell ⟨gu, 2, none⟩ (.slice ta (labs.length + 1) tc) := ⟨_, rfl⟩
    rw [← hWf] at HFIN ⊢
    clear hWf
    obtain ⟨hF1, hF2, hF3, hF4, hF5⟩ := HFIN.out
    have HF5 := Lib.hid hF5
    have HFA : Hid (∀ W', Below Wf.heap.size Wf W' → ∃ v' nv', Ending.returned (.tuple #[.slice ad2 rest.length cap2, .int .i64 0]) = .returned (.tuple #[v', .int .i64 0]) ∧ PReads w0 v' rest ∧ Below w0.heap.size w0 W' ∧ UR W' B gu (.slice none 0 0) ln nv' (.map (some mb)) pp pv rv its ∧ W'.ownsRow B 9 1 nv' (labs.length + 1) (nameC (labs ++ [(nm, its.length)])) ∧ LbR W' mb (labs ++ [(nm, its.length)]) ∧ Ch3 gu mb (Value.slice na labs.length nc).ownBlock w W') := fun W' hb =>
      ⟨_, _, rfl, HV5.out, hF5.trans (hb.mono hF5.size), hF1.go hb, Sc.owns_below hF2 hb (Nat.le_refl _), hF3.go hb, ⟨hb.os.trans hF4.os, hb.tape.trans hF4.tape, hb.output.trans hF4.output, Nat.le_trans hF4.size hb.size, fun i hi h1 h2 h3 => by rw [hb.block i (Nat.lt_of_lt_of_le hi hF4.size)]; exact hF4.block i hi h1 h2 h3⟩⟩
    clear hF1 hF2 hF3 hF4 hF5 HFIN HR0 HUB0 HR6 KP6 HG6 HM6
    rw [rounds_succ]
    go_wp2_with fail
    refine (HN3.out _ _ HF5.out HV5.out).mono ?_
    rintro e z1 ⟨⟨v1, rfl, hv1⟩, hb1⟩
    obtain ⟨ad1', cap1', rfl, _⟩ := id hv1
    have HY1 := Lib.hid hv1
    have HZ2 := Lib.hid hb1
    have HZ0 := Lib.hid (HF5.out.trans (HZ2.out.mono HF5.out.size))
    clear hv1 hb1
    go_wp2_with fail
    refine (HN4.out _ _ (HZ0.out.alloc HZ0.out.size _) HY1.out).mono ?_
    rintro e z2 ⟨⟨v2, rfl, hv2⟩, hb2⟩
    obtain ⟨ad3, cap3, rfl, _⟩ := hv2
    obtain ⟨hB2, hy2, xr⟩ := box_keep hb2
    have t0 : z2.cell? ⟨z1.heap.size, 0, none⟩ = some (.int .i64 xk) := blk_cell xr rfl
    have t1 : z2.cell? ⟨z1.heap.size, 1, none⟩ = some (.int .i64 xn) := blk_cell xr rfl
    have t2 : z2.cell? ⟨z1.heap.size, 2, none⟩ = some (.string xt) := blk_cell xr rfl
    have HQ2 := Lib.hid (HZ2.out.trans (hB2.mono HZ2.out.size))
    clear hb2 hB2 xr HZ2 HY1
    cases p1
    · go_wp2_with fail
      refine (HW3.out _).mono ?_
      rintro e z3 ⟨rfl, hb3⟩
      have HQ3 := Lib.hid (((HQ2.out.alloc HQ2.out.size _)).trans (hb3.mono (by have := HQ2.out.size; simp; omega)))
      clear hb3
      go_wp2_with fail
      go_ret2
      exact HFA.out _ HQ3.out
    · have hp2 : p2 = false := by simpa using HLB.out
      subst hp2
      go_wp2_with fail
      refine (HW3.out _).mono ?_
      rintro e z3 ⟨rfl, hb3⟩
      obtain ⟨hB3, hy3, yr⟩ := box_keep hb3
      have s0 : z3.cell? ⟨z2.heap.size, 0, none⟩ = some (.int .i64 yk) := blk_cell yr rfl
      have s1 : z3.cell? ⟨z2.heap.size, 1, none⟩ = some (.int .i64 yn) := blk_cell yr rfl
      have s2 : z3.cell? ⟨z2.heap.size, 2, none⟩ = some (.string yt) := blk_cell yr rfl
      have HQ3 := Lib.hid (HQ2.out.trans (hB3.mono HQ2.out.size))
      clear hb3 hB3 yr
      go_wp2_with fail
      refine (HS3.out _).mono ?_
      rintro e z4 ⟨rfl, hb4⟩
      have HQ4 := Lib.hid (HQ3.out.trans (hb4.mono HQ3.out.size))
      clear hb4
      go_wp2_with fail
      go_ret2
      exact HFA.out _ HQ4.out

end Go.Proofs.YtgjmbjahgcndnaaGreatDoor
