/- asm: labels as a map, and where a value is. asm: a label kept. asm: instructions' bytes. asm: a unit whose places are told, while it is written; where an instruction leads. -/
import Derived.Test.YtbpoiajpcahdhaaGreatDoorUdM
import Derived.Test.YtbpoiajpcahdhaaGreatDoorPut40
import Derived.Test.YtbpoiajpcahdhaaGreatDoorPut39
namespace Go.Proofs.YtbpoiajpcahdhaaGreatDoor
open Go.RowKit Go.Maps Go.MapKept

theorem lawS : Keyed Tryz.prog 9 := string_keyed Tryz.underlying9
theorem zeroI (w : World) : (zeroValue 3).run Tryz.prog w = .ok (.int .i64 0) w := by kernel_rfl

/-- The map tells which item each label stands ahead of. -/
structure LM (D : DataW Unit) (l : List (List UInt8 × Nat)) : Prop where
  im : IsMap D
  has : ∀ n, Maps.has D (.string n) = (labelAt n l).isSome
  at' : ∀ n z k, labelAt n l = some k → D.atKey (.string n) z = .lit (.int .i64 (k : Int))
  no : ∀ n z, labelAt n l = none → D.atKey (.string n) z = z
theorem LM.nil : LM (.map []) [] := ⟨isMap_empty, fun _ => rfl, fun _ _ _ h => by simp [labelAt] at h, fun _ _ _ => rfl⟩
/-- The labels of a unit in memory. -/
def LbR (W : World) (mb : Nat) (l : List (List UInt8 × Nat)) : Prop := ∃ D, W.ownsMap Tryz.prog 9 (plainElem Tryz.prog 3) mb l.length D ∧ LM D l
theorem LbR.go {W W' : World} {mb : Nat} {l : List (List UInt8 × Nat)} (h : LbR W mb l) (hb : Below W.heap.size W W') : LbR W' mb l := by
  obtain ⟨D, h1, h2⟩ := h
  exact ⟨D, h1.kept (gbelow none hb (Nat.le_refl _)) (by simp), h2⟩
theorem strKey {nm : List UInt8} (hl : nm.length ≤ maxLen) : keyOf Tryz.prog 9 (.string ⟨nm.toArray⟩) = some (.string nm) := Go.WideMaps.keyOf_string_mk Tryz.underlying9 (s := ⟨nm.toArray⟩) (by simpa [ByteArray.size] using hl)
theorem lit_int {a b : Int} (h : (DataW.lit (.int .i64 a) : DataW Unit) = .lit (.int .i64 b)) : a = b := by
  injection h with h
  injection h with _ h
theorem LbR.look {W : World} {mb k : Nat} {l : List (List UInt8 × Nat)} {nm : List UInt8} (h : LbR W mb l) (hl : nm.length ≤ maxLen) (hk : labelAt nm l = some k) : (Instr.lookup 127 (.map (some mb)) (.string ⟨nm.toArray⟩) true).run Tryz.prog W = .ok (.tuple #[.int .i64 (k : Int), .bool true]) W := by
  obtain ⟨D, hm, hd⟩ := h
  obtain ⟨v, ps, hrun, hv⟩ := hm.look_ok lawS Tryz.underlying127 (zeroI W) (plainElem_int Tryz.underlying3 (by decide)) (strKey hl)
  obtain ⟨c, rfl, hc, _⟩ := plainElem_int_inv Tryz.underlying3 hv
  have hc1 := (hd.at' nm _ k hk).symm.trans (congrArg Prod.fst hc)
  have hc2 : (k : Int) = c := lit_int hc1
  subst hc2
  have hh : Maps.has D (.string nm) = true := by rw [hd.has, hk]; rfl
  rw [hh] at hrun
  exact hrun
theorem LbR.look0 {W : World} {mb : Nat} {l : List (List UInt8 × Nat)} {nm : List UInt8} (h : LbR W mb l) (hl : nm.length ≤ maxLen) (hk : labelAt nm l = none) : (Instr.lookup 127 (.map (some mb)) (.string ⟨nm.toArray⟩) true).run Tryz.prog W = .ok (.tuple #[.int .i64 0, .bool false]) W := by
  obtain ⟨D, hm, hd⟩ := h
  obtain ⟨v, ps, hrun, hv⟩ := hm.look_ok lawS Tryz.underlying127 (zeroI W) (plainElem_int Tryz.underlying3 (by decide)) (strKey hl)
  obtain ⟨c, rfl, hc, _⟩ := plainElem_int_inv Tryz.underlying3 hv
  have hc1 := (hd.no nm _ hk).symm.trans (congrArg Prod.fst hc)
  have hc2 : (0 : Int) = c := lit_int hc1
  subst hc2
  have hh : Maps.has D (.string nm) = false := by rw [hd.has, hk]; rfl
  rw [hh] at hrun
  exact hrun
theorem LbR.at1 {W : World} {mb k : Nat} {l : List (List UInt8 × Nat)} {nm : List UInt8} (h : LbR W mb l) (hl : nm.length ≤ maxLen) (hk : labelAt nm l = some k) : (Instr.lookup 127 (.map (some mb)) (.string ⟨nm.toArray⟩) false).run Tryz.prog W = .ok (.int .i64 (k : Int)) W := by
  obtain ⟨D, hm, hd⟩ := h
  obtain ⟨c, hrun, hat, _⟩ := hm.lookup_int lawS Tryz.underlying127 Tryz.underlying3 (zeroI W) (strKey hl)
  have hc2 : (k : Int) = c := lit_int ((hd.at' nm _ k hk).symm.trans hat)
  subst hc2
  exact hrun

set_option maxHeartbeats 4000000 in
theorem placeOf_found (gu gp mb k n : Nat) (e nv iv pp rv : Value) (ln add : Int) (nm : List UInt8) (l : List (List UInt8 × Nat)) (ps : List Int) (w : World) (hu : w.heap[gu]? = some (.cells (uC e ln nv (.map (some mb)) iv pp (.slice (some ⟨gp, 0, none⟩) (n + 1) (n + 1)) rv) 133 (0, 0)))
    (hm : LbR w mb l) (hp : PlR w gp n (n + 1) ps) (hn : nm ≠ []) (hl : nm.length ≤ maxLen) (hk : labelAt nm l = some k) (hkn : k ≤ n) (_ : n ≤ 100000) (h0 : 0 ≤ ps.getD k 0) (h1 : ps.getD k 0 ≤ 1000000) (h2 : -1000000000000 ≤ add) (h3 : add ≤ 1000000000000) :
    Calls Tryz.prog 131 #[.pointer (some ⟨gu, 0, none⟩), .agg #[.string ⟨nm.toArray⟩, .int .i64 add]] w fun r w' => r = .returned (.tuple #[.int .i64 (ps.getD k 0 + add), .int .i64 0]) ∧ Below w.heap.size w w' := by
  have hlk := (hm.go (oalloc w (.cells #[.string ⟨nm.toArray⟩, .int .i64 add] 180))).look hl hk
  have hlk' := (hm.go (oalloc w (.cells #[.string ⟨nm.toArray⟩, .int .i64 add] 180)).drew).look hl hk
  have c3 : w.cell? ⟨gu, 3, none⟩ = some (.map (some mb)) := blk_cell hu rfl
  have c6 : w.cell? ⟨gu, 6, none⟩ = some (.slice (some ⟨gp, 0, none⟩) (n + 1) (n + 1)) := blk_cell hu rfl
  have hg := blk_lt hu
  have hn1 : (nm == []) = false := by simpa using hn
  obtain ⟨q, hq⟩ : ∃ q, ps.getD k 0 = q := ⟨_, rfl⟩
  have hgp : gp < w.heap.size := by obtain ⟨cs, k1, _⟩ := hp; exact blk_lt k1
  have cp : w.cell? ⟨gp, k, none⟩ = some (.int .i64 q) := by obtain ⟨cs, k1, _, _, k4⟩ := hp; rw [← hq]; exact blk_cell k1 (k4 k (by omega))
  rw [hq] at h0 h1 ⊢
  clear hp hq hm hu hk
  go_enter Tryz.func131, Tryz.ntmps131
  go_wp2_with fail
  go_region
  all_goals go_wp2_with fail
  all_goals go_region
  all_goals go_wp2_with fail
  all_goals
    go_ret2
    exact ⟨rfl, ((oalloc _ _).drew).drew⟩

set_option maxHeartbeats 4000000 in
theorem placeOf_none (gu mb : Nat) (e nv iv pp pv rv : Value) (ln add : Int) (nm : List UInt8) (l : List (List UInt8 × Nat)) (w : World) (hu : w.heap[gu]? = some (.cells (uC e ln nv (.map (some mb)) iv pp pv rv) 133 (0, 0)))
    (hm : LbR w mb l) (hn : nm ≠ []) (hl : nm.length ≤ maxLen) (hk : labelAt nm l = none) :
    Calls Tryz.prog 131 #[.pointer (some ⟨gu, 0, none⟩), .agg #[.string ⟨nm.toArray⟩, .int .i64 add]] w fun r w' => r = .returned (.tuple #[.int .i64 0, .int .i64 6]) ∧ Below w.heap.size w w' := by
  have hlk := (hm.go (oalloc w (.cells #[.string ⟨nm.toArray⟩, .int .i64 add] 180))).look0 hl hk
  have hlk' := (hm.go (oalloc w (.cells #[.string ⟨nm.toArray⟩, .int .i64 add] 180)).drew).look0 hl hk
  have c3 : w.cell? ⟨gu, 3, none⟩ = some (.map (some mb)) := blk_cell hu rfl
  have hg := blk_lt hu
  have hn1 : (nm == []) = false := by simpa using hn
  clear hm hu hk
  go_enter Tryz.func131, Tryz.ntmps131
  go_wp2_with fail
  go_region
  all_goals go_wp2_with fail
  all_goals
    go_ret2
    exact ⟨rfl, (oalloc _ _).drew⟩

end Go.Proofs.YtbpoiajpcahdhaaGreatDoor

namespace Go.Proofs.YtbpoiajpcahdhaaGreatDoor
open Go.RowKit Go.Maps Go.MapKept

end Go.Proofs.YtbpoiajpcahdhaaGreatDoor

namespace Go.Proofs.YtbpoiajpcahdhaaGreatDoor
open Go.RowKit

/-- The bytes that Put has laid. -/
theorem putB {W : World} {g size : Nat} {n : Int} (hs : size = 1 ∨ size = 2 ∨ size = 4) (hg : g < W.heap.size) (h : ∀ i, i < size → W.cell? ⟨g, i, none⟩ = some (.int .u8 (Isa.putAt (fun _ => 0) 0 size n i))) : OBytes W (.slice (some ⟨g, 0, none⟩) size size) (putU size n) := by
  have key : (putU size n).length = size ∧ ∀ i (hi : i < (putU size n).length), (((putU size n)[i]).toNat : Int) = Isa.putAt (fun _ => 0) 0 size n i := by
    rcases hs with rfl | rfl | rfl
    · refine ⟨rfl, fun i hi => ?_⟩
      obtain rfl : i = 0 := by simpa [putU] using hi
      show ((lowB n).toNat : Int) = _
      rw [lowB_nat]
      simp [Isa.putAt]
    · refine ⟨rfl, fun i hi => ?_⟩
      have hi' : i < 2 := by simpa [putU, half] using hi
      rcases i with _ | _ | i
      · show ((lowB (n / 256)).toNat : Int) = _
        rw [lowB_nat]
        simp [Isa.putAt]
      · show ((lowB n).toNat : Int) = _
        rw [lowB_nat]
        simp [Isa.putAt]
      · omega
    · refine ⟨rfl, fun i hi => ?_⟩
      have hi' : i < 4 := by simpa [putU, be4] using hi
      rcases i with _ | _ | _ | _ | i
      · show ((lowB (n / 16777216)).toNat : Int) = _
        rw [lowB_nat]
        simp [Isa.putAt]
      · show ((lowB (n / 65536)).toNat : Int) = _
        rw [lowB_nat]
        simp [Isa.putAt]
      · show ((lowB (n / 256)).toNat : Int) = _
        rw [lowB_nat]
        simp [Isa.putAt]
      · show ((lowB n).toNat : Int) = _
        rw [lowB_nat]
        simp [Isa.putAt]
      · omega
  obtain ⟨hl, hb⟩ := key
  refine ⟨some ⟨g, 0, none⟩, size, by rw [hl], by rw [hl]; rcases hs with rfl | rfl | rfl <;> decide, fun _ => ⟨g, 0, rfl, hg, fun i hi => ?_⟩⟩
  rw [hb i hi, Nat.zero_add]
  exact h i (by omega)

/-- An instruction's numbers. -/
structure In where
  op : Int
  n : Int
  m : Int
  imm : Int
def In.C (k : In) : Array Value := #[.int .i64 k.op, .int .i64 k.n, .int .i64 k.m, .int .i64 k.imm]
def In.enc (k : In) : Int := Isa.encI k.op k.n k.m k.imm
def In.ok (k : In) : Prop := Isa.wrongI k.op k.n k.m k.imm = 0
def encsB (ks : List In) : List UInt8 := ks.flatMap fun k => half k.enc
/-- Instructions that lie in memory. -/
def InsR (w : World) (ad : Option Addr) (ks : List In) : Prop := 0 < ks.length → ∃ b o, ad = some ⟨b, o, none⟩ ∧ b < w.heap.size ∧ ∀ i (h : i < ks.length), w.cell? ⟨b, o + i * 4, none⟩ = some (.int .i64 ks[i].op) ∧ w.cell? ⟨b, o + i * 4 + 1, none⟩ = some (.int .i64 ks[i].n) ∧ w.cell? ⟨b, o + i * 4 + 2, none⟩ = some (.int .i64 ks[i].m) ∧ w.cell? ⟨b, o + i * 4 + 3, none⟩ = some (.int .i64 ks[i].imm)

set_option maxHeartbeats 4000000 in
theorem encoded_any (ks : List In) (ad : Option Addr) (cap : Nat) (w : World) (hL : Isa.Laid w) (hr : InsR w ad ks) (hok : ∀ k, k ∈ ks → k.ok) (hn : ks.length ≤ 1000) :
    Calls Tryz.prog 196 #[.slice ad ks.length cap] w fun r w' => (∃ cv, r = .returned (.tuple #[cv, .int .i64 0]) ∧ Out w' w.heap.size cv (encsB ks)) ∧ Below w.heap.size w w' := by
  have HL := Lib.hid hL
  have HR := Lib.hid hr
  have HOK := Lib.hid hok
  have hm2 : ∀ W, (Instr.makeSlice 36 (.int .i64 2) (.int .i64 2)).run Tryz.prog W = .ok (.slice (some ⟨W.heap.size, 0, none⟩) 2 2) (W.alloc (.cells (madeCells #[.int .u8 0] 2) 5)) := fun W => makeB 2 (by omega) W
  clear hL hr hok
  have HEN := Lib.hid fun (k : In) W (hb : Below w.heap.size w W) => Isa.encode_any k.op k.n k.m k.imm W (HL.out.below hb HL.out.sz)
  have HPU : Hid (∀ n W g, g < W.heap.size → (∀ i, i < 2 → W.cell? ⟨g, i, none⟩ = some (.int .u8 0)) → Calls Tryz.prog 66 #[.slice (some ⟨g, 0, none⟩) 2 2, .int .i64 0, .int .i64 2, .int .i64 n] W fun e w' => ∃ q, e = .returned (.slice (some ⟨q, 0, none⟩) 2 2) ∧ OBytes w' (.slice (some ⟨q, 0, none⟩) 2 2) (half n) ∧ Below W.heap.size W w') := fun n W g hg hc => by
    refine (Isa.put_any (some ⟨g, 0, none⟩) 2 2 (fun _ => 0) 0 2 n W (by omega) (fun _ => ⟨g, 0, rfl, fun i hi => by rw [Nat.zero_add]; exact hc i hi⟩) (by omega) (by omega) (by omega) (by omega)).mono ?_
    rintro e w' ⟨rfl, hb, hlt, hcell⟩
    exact ⟨_, rfl, putB (n := n) (.inr (.inl rfl)) hlt hcell, hb⟩
  go_enter Tryz.func196, Tryz.ntmps196
  go_wp2_with fail
  go_loopw [4, 11] (fun ov iv wr => ∃ k : Nat, k ≤ ks.length ∧ iv = .int .i64 k ∧ Hid (Out wr w.heap.size ov (encsB (ks.take k))) ∧ Hid (Below w.heap.size w wr)) (fun _ iv _ => ks.length - (intOf iv).toNat)
  case atStart => exact ⟨0, Nat.zero_le _, rfl, ⟨World.ownsRow_nil _ _ _ _, Nat.le_refl _⟩, Below.refl _ _⟩
  case round =>
    obtain ⟨k, hk, rfl, HO, HB⟩ := hrel
    by_cases hlt : k < ks.length
    · have hk' : (k : Int) < ks.length := by omega
      obtain ⟨b, o, rfl, hbl, hcell⟩ := HR.out (by omega)
      obtain ⟨r0, r1, r2, r3⟩ := hcell k hlt
      rw [← HB.out.cell (by exact hbl)] at r0 r1 r2 r3
      have hbr : b < wr.heap.size := Nat.lt_of_lt_of_le hbl HB.out.size
      obtain ⟨x, hx⟩ : ∃ x, ks[k]'hlt = x := ⟨_, rfl⟩
      have hxo : x.ok := HOK.out x (by rw [← hx]; exact List.getElem_mem _)
      have HT : Hid (encsB (ks.take (k + 1)) = encsB (ks.take k) ++ half x.enc) := by
        unfold Hid
        rw [List.take_succ_eq_append_getElem hlt, hx]
        simp [encsB]
      rw [hx] at r0 r1 r2 r3
      have HEX := Lib.hid fun W hb => HEN.out x W hb
      obtain ⟨op, n, m, imm⟩ := x
      simp only [In.enc] at HT
      simp only at r0 r1 r2 r3 HEX
      have hw0 : Isa.wrongI op n m imm = 0 := hxo
      have hew : Isa.encW op n m imm = Isa.encI op n m imm := by unfold Isa.encW; rw [if_pos hw0]
      generalize Isa.encI op n m imm = E at *
      clear hx hcell hxo
      go_wp2_with fail
      refine (HEX.out _ (HB.out.alloc HB.out.size _)).mono ?_
      rintro e w1 ⟨rfl, hb1⟩
      rw [hw0, hew]
      have hB1 : Below wr.heap.size wr w1 := (oalloc _ _).trans (hb1.mono (by simp))
      have HB1 := Lib.hid (HB.out.trans (hB1.mono HB.out.size))
      have HO1 := Lib.hid (HO.out.below hB1 (Nat.le_refl _))
      have HP1 := Lib.hid fun W hg hc => HPU.out E W w1.heap.size hg hc
      obtain ⟨oa, oc, hov⟩ := row_shape HO.out.1
      subst hov
      have HZ : Hid (∀ i, i < 2 → (w1.alloc (.cells (madeCells #[.int .u8 0] 2) 5)).cell? ⟨w1.heap.size, i, none⟩ = some (.int .u8 0)) := fun i hi => (World.rowIs_made w1 (.int .u8 0) 2 5).cell hi
      clear hb1 hB1 HEX HPU HEN hew hw0
      go_wp2_with fail
      refine (HP1.out _ (by simp) HZ.out).mono ?_
      rintro e w2 ⟨q, rfl, hob, hb2⟩
      have hB2 : Below w1.heap.size w1 w2 := (oalloc _ _).trans (hb2.mono (by simp))
      have HB2 := Lib.hid (HB1.out.trans (hB2.mono HB1.out.size))
      have hO2 := HO1.out.below hB2 (Nat.le_refl _)
      have hlen : (encsB (ks.take k)).length ≤ 2 * k := by
        have e1 : ∀ l : List In, (encsB l).length = 2 * l.length := fun l => by
          induction l with
          | nil => rfl
          | cons a r ih => simp only [encsB, List.flatMap_cons, List.length_append, List.length_cons] at ih ⊢; rw [ih]; simp [half]; omega
        rw [e1]; simp; omega
      obtain ⟨v', w3, happ, hO3, hg3⟩ := app_obytes hO2 hob (by simp [half]; omega)
      have HO3 := Lib.hid hO3
      have HB3 : Hid (Below w.heap.size w w3) := hO2.grown HB2.out hg3 (Nat.le_refl _)
      have HA := Lib.hid happ
      clear hob hb2 hB2 hO2 hO3 hg3 HZ HP1 happ
      go_wp2_with (first | (at_builtin; refine wpList_app_eq rfl _ _ _ _ rfl _ _ rfl rfl HA.out ?_) | fail)
      exact ⟨⟨k + 1, by omega, by go_num, Lib.hid (by rw [HT.out]; exact HO3.out), HB3⟩, by simp [intOf]; omega⟩
    · obtain rfl : k = ks.length := by omega
      have hk' : ¬ ((ks.length : Nat) : Int) < ks.length := by omega
      go_wp2
      go_ret2
      have := HO.out
      rw [List.take_length] at this
      exact ⟨⟨_, rfl, this⟩, HB.out⟩

theorem In.okB {k : In} {b : List UInt8} (h : encU k.op k.n k.m k.imm = .ok b) : k.ok ∧ b = half k.enc := by
  unfold encU at h
  split at h
  · next h0 => injection h with h; exact ⟨h0, h.symm⟩
  · exact absurd h (by simp)

/-- One instruction whole. -/
theorem encoded_one (k : In) (g : Nat) (b : List UInt8) (w : World) (hL : Isa.Laid w) (hg : w.heap[g]? = some (.cells k.C 255 (0, 0))) (hok : encU k.op k.n k.m k.imm = .ok b) :
    Calls Tryz.prog 196 #[.slice (some ⟨g, 0, none⟩) 1 1] w fun r w' => (∃ ca cl cc, r = .returned (.tuple #[.slice ca cl cc, .int .i64 0]) ∧ OBytes w' (.slice ca cl cc) b) ∧ Below w.heap.size w w' := by
  obtain ⟨h1, rfl⟩ := In.okB hok
  refine (encoded_any [k] (some ⟨g, 0, none⟩) 1 w hL (fun _ => ⟨g, 0, rfl, blk_lt hg, fun i hi => ?_⟩) (by simpa using h1) (by simp)).mono ?_
  · obtain rfl : i = 0 := by simpa using hi
    exact ⟨blk_cell hg rfl, blk_cell hg rfl, blk_cell hg rfl, blk_cell hg rfl⟩
  · rintro r w' ⟨⟨cv, rfl, ho⟩, hb⟩
    obtain ⟨ca, cc, rfl⟩ := row_shape ho.1
    exact ⟨⟨_, _, _, rfl, by simpa [encsB] using ho.bytes (by simp [encsB, half]; decide)⟩, hb⟩

theorem plain1_any (k : In) (gi : Nat) (p s : Int) (b : List UInt8) (w : World) (hL : Isa.Laid w) (hg : w.heap[gi]? = some (.cells k.C 255 (0, 0))) (hok : encU k.op k.n k.m k.imm = .ok b) :
    Calls Tryz.prog 203 #[.int .i64 p, .int .i64 s, .pointer (some ⟨gi, 0, none⟩)] w fun r w' => (∃ ca cl cc, r = .returned (.tuple #[.slice ca cl cc, .int .i64 0]) ∧ OBytes w' (.slice ca cl cc) b) ∧ Below w.heap.size w w' := by
  have HE := Lib.hid fun W (hb : Below w.heap.size w W) g (hq : W.heap[g]? = some (.cells k.C 255 (0, 0))) => encoded_one k g b W (hL.below hb hL.sz) hq hok
  obtain ⟨op, n, m, imm⟩ := k
  have c0 : w.cell? ⟨gi, 0, none⟩ = some (.int .i64 op) := blk_cell hg rfl
  have c1 : w.cell? ⟨gi, 1, none⟩ = some (.int .i64 n) := blk_cell hg rfl
  have c2 : w.cell? ⟨gi, 2, none⟩ = some (.int .i64 m) := blk_cell hg rfl
  have c3 : w.cell? ⟨gi, 3, none⟩ = some (.int .i64 imm) := blk_cell hg rfl
  have hgi := blk_lt hg
  clear hL hg hok
  go_enter Tryz.func203, Tryz.ntmps203
  go_wp2_with fail
  refine (HE.out _ (oalloc _ _) _ (new_at _ _ rfl)).mono ?_
  rintro e w1 ⟨⟨ca, cl, cc, rfl, hob⟩, hb1⟩
  have HOB := Lib.hid hob
  have HB1 : Hid (Below w.heap.size w w1) := (oalloc _ _).trans (hb1.mono (by simp))
  clear hob hb1 HE
  go_wp2
  go_ret2
  exact ⟨⟨ca, cl, cc, rfl, HOB.out⟩, HB1.out⟩

theorem led_any (op n m imm p q d : Int) (w : World) (hL : Isa.Laid w) (h0 : 0 ≤ p) (h1 : p ≤ 1000000) (h2 : -1000000000000 ≤ q) (h3 : q ≤ 1000000000000) (h : ledU op p q = .ok d) :
    Calls Tryz.prog 195 #[.agg #[.int .i64 op, .int .i64 n, .int .i64 m, .int .i64 imm], .int .i64 p, .int .i64 q] w fun r w' => r = .returned (.tuple #[.agg #[.int .i64 op, .int .i64 n, .int .i64 m, .int .i64 d], .int .i64 0]) ∧ Below w.heap.size w w' := by
  have HI := Lib.hid fun W (hb : Below w.heap.size w W) => Isa.info_any op W (hL.below hb hL.sz)
  have HA := Lib.hid fun W => away_any (Isa.infoShape op) p q W h0 h1 h2 h3
  have hs : (awayU (Isa.infoShape op) p q).2 = 4 ∨ (awayU (Isa.infoShape op) p q).2 = 2 := by
    unfold awayU
    split
    · exact .inl rfl
    · exact .inr rfl
  have hb : -2000000000000 ≤ (awayU (Isa.infoShape op) p q).1 ∧ (awayU (Isa.infoShape op) p q).1 ≤ 2000000000000 := by
    unfold awayU
    split
    · have := Int.tmod_nonneg 4 (show 0 ≤ p + 4 by omega)
      have := Int.tmod_lt_of_pos (p + 4) (show (0 : Int) < 4 by omega)
      constructor <;> simp only [] <;> omega
    · constructor <;> simp only [] <;> omega
  unfold ledU at h
  generalize (awayU (Isa.infoShape op) p q).1 = x at *
  generalize (awayU (Isa.infoShape op) p q).2 = s at *
  generalize Isa.infoShape op = sh at *
  generalize Isa.infoName op = nm at *
  have hx0 : x.tmod s = 0 := by
    by_cases e : x.tmod s = 0
    · exact e
    · rw [if_pos e] at h; exact absurd h (by simp)
  rw [if_neg (by simpa using hx0)] at h
  injection h with h
  have hd : wrap64 d = d := by
    have := Int.mul_tdiv_add_tmod x s
    rw [hx0, h] at this
    unfold wrap64
    rcases hs with rfl | rfl <;> omega
  clear hL
  rcases hs with rfl | rfl
  all_goals
    have hx1 : (x.tmod _ == 0) = true := beq_iff_eq.2 hx0
    go_enter Tryz.func195, Tryz.ntmps195
    go_wp2_with fail
    refine (HI.out _ (by go_grown)).mono ?_
    rintro e w1 ⟨rfl, hb1⟩
    have x0 : w1.heap[w.heap.size]? = some (.cells #[.int .i64 op, .int .i64 n, .int .i64 m, .int .i64 imm] 255 (0, 0)) := by
      rw [hb1.block _ (by go_size), old2 _ _ (by go_size)]
      exact new_at _ _ rfl
    have x1 : w1.heap[w.heap.size + 1]? = some (.cells #[.int .i64 0, .int .i64 0, .int .i64 0, .int .i64 0] 255 (0, 0)) := by
      rw [hb1.block _ (by go_size)]
      exact new_at _ _ (by go_size)
    have HB1 : Hid (Below w.heap.size w w1) := Below.trans (by go_grown) (hb1.mono (by go_size))
    obtain ⟨⟨⟨u0, u1⟩, u2, u3⟩, ⟨f0, f1⟩, f2, f3⟩ := var4_of x0
    obtain ⟨⟨⟨v0, v1⟩, v2, v3⟩, ⟨g0, g1⟩, g2, g3⟩ := var4_of x1
    have hz1 := blk_lt x1
    clear hb1 x0 x1 HI
    go_wp2_with (first | (go_at_call 226; refine (HA.out _).mono ?_; rintro e w2 ⟨rfl, rfl⟩) | fail)
    rw [hd]
    exact bodyPost_ret (v := .tuple #[.agg #[.int .i64 op, .int .i64 n, .int .i64 m, .int .i64 d], .int .i64 0]) (by simp [results, Tryz.results195, go_sem, v0, v1, v2, v3]) rfl ⟨rfl, ((((HB1.out.setCell (Nat.le_refl _) _).setCell (Nat.le_succ _) _).setCell (Nat.le_succ _) _).setCell (Nat.le_succ _) _).setCell (Nat.le_succ _) _⟩

end Go.Proofs.YtbpoiajpcahdhaaGreatDoor

namespace Go.Proofs.YtbpoiajpcahdhaaGreatDoor
open Go.RowKit

/-- What stays as it is while a unit is written. -/
structure SU where
  gu : Nat
  gp : Nat
  mb : Nat
  n : Nat
  e : Value
  nv : Value
  iv : Value
  pp : Value
  ln : Int
  labs : List (List UInt8 × Nat)
  ps : List Int
  firsts : Nat → Nat

structure S0 (x : SU) (w : World) : Prop where
  pl : PlR w x.gp x.n (x.n + 1) x.ps
  lb : LbR w x.mb x.labs
  laid : Isa.Laid w
  hi : max 5 8 < x.gu
  nn : x.n ≤ 100000
  bd : ∀ k, 0 ≤ x.ps.getD k 0 ∧ x.ps.getD k 0 ≤ 1000000
  lab : ∀ nm k, labelAt nm x.labs = some k → k ≤ x.n

def Re.cells (r : Re) : List Value := [.int .i64 r.pos, .int .i64 r.size, .string ⟨r.name.toArray⟩, .int .i64 r.add]
def rcells (l : List Re) : List Value := l.flatMap Re.cells
def SU.C (x : SU) (rv : Value) : Array Value := uC x.e x.ln x.nv (.map (some x.mb)) x.iv x.pp (.slice (some ⟨x.gp, 0, none⟩) (x.n + 1) (x.n + 1)) rv

/-- The unit while it is written: its relocs. -/
structure WS (x : SU) (w W : World) (rv : Value) (rs : List Re) : Prop where
  st : S0 x w
  fr : Fr x.gu w.heap.size w W
  ub : ∃ c, w.heap[x.gu]? = some (.cells c 133 (0, 0))
  box : W.heap[x.gu]? = some (.cells (x.C rv) 133 (0, 0))
  rel : W.ownsRow w.heap.size 113 4 rv rs.length (rcells rs)

/-- Blocks but two are as they were. -/
structure Ch (g : Nat) (o : Option Nat) (W W' : World) : Prop where
  os : W'.os = W.os
  tape : W'.tape = W.tape
  output : W'.output = W.output
  size : W.heap.size ≤ W'.heap.size
  block : ∀ i, i < W.heap.size → i ≠ g → some i ≠ o → W'.heap[i]? = W.heap[i]?
theorem Ch.of {g : Nat} {o : Option Nat} {W W' : World} (h : Below W.heap.size W W') : Ch g o W W' := ⟨h.os, h.tape, h.output, h.size, fun i hi _ _ => h.block i hi⟩

theorem Fr.lowd {g B : Nat} {w w' : World} (h : Fr g B w w') (hg : g ≤ B) : Below g w w' := ⟨h.os, h.tape, h.output, h.size, fun i hi => h.block i (by omega) (by omega)⟩

section
variable {x : SU} {w W W' : World} {rv : Value} {rs : List Re}
theorem WS.go (h : WS x w W rv rs) (hb : Below W.heap.size W W') : WS x w W' rv rs :=
  ⟨h.st, h.fr.trans (Fr.below (hb.mono h.fr.size)), h.ub, by rw [hb.block _ (blk_lt h.box)]; exact h.box, Sc.owns_below h.rel hb (Nat.le_refl _)⟩
theorem WS.keep (h : WS x w W rv rs) {q : Nat} {o : Obj} (hq : w.heap[q]? = some o) (hne : q ≠ x.gu) : W.heap[q]? = some o := by rw [h.fr.block q (blk_lt hq) hne]; exact hq
theorem S0.go (h : S0 x w) (hf : Fr x.gu w.heap.size w W) (hu : ∃ c, w.heap[x.gu]? = some (.cells c 133 (0, 0))) : S0 x W := by
  obtain ⟨c, hu⟩ := hu
  have hne : ∀ {q : Nat} {o : Obj}, w.heap[q]? = some o → (∀ c', o ≠ .cells c' 133 (0, 0)) → W.heap[q]? = some o := by
    intro q o hq ho
    rw [hf.block q (blk_lt hq) (by rintro rfl; rw [hu] at hq; injection hq with hq; exact ho _ hq.symm)]
    exact hq
  refine ⟨?_, ?_, h.laid.below (hf.lowd (Nat.le_of_lt (blk_lt hu))) h.hi, h.hi, h.nn, h.bd, h.lab⟩
  · obtain ⟨cs, k1, k2⟩ := h.pl
    exact ⟨cs, hne k1 (by intro c' e; injection e with _ e2; exact absurd e2 (by decide)), k2⟩
  · obtain ⟨D, ⟨es, clock, hb, F⟩, hd⟩ := h.lb
    exact ⟨D, ⟨es, clock, hne hb (by intro c' e; cases e), F⟩, hd⟩
theorem WS.s0 (h : WS x w W rv rs) : S0 x W := h.st.go h.fr h.ub
theorem WS.lt (h : WS x w W rv rs) : x.gu < w.heap.size := by obtain ⟨c, hc⟩ := h.ub; exact blk_lt hc
end

set_option maxHeartbeats 1000000 in
theorem ask1_any (x : SU) (rv : Value) (gb gq gi g i : Nat) (vv mv : Value) (w : World) (hs : S0 x w) (hu : w.heap[x.gu]? = some (.cells (x.C rv) 133 (0, 0))) (hb : w.heap[gb]? = some (.cells #[.pointer (some ⟨x.gu, 0, none⟩)] 163 (0, 0))) (hq : w.heap[gq]? = some (.cells #[.pointer (some ⟨g, 0, none⟩)] 128 (0, 0))) (hi : w.heap[gi]? = some (.cells #[.int .i64 i] 3 (0, 0)))
    (hg : w.heap[g]? = some (.cells #[.int .i64 (x.firsts g), vv, mv] 162 (0, 0))) (hk : x.firsts g + i ≤ x.n) :
    Calls Tryz.prog 200 #[.pointer (some ⟨gb, 0, none⟩), .pointer (some ⟨gq, 0, none⟩), .pointer (some ⟨gi, 0, none⟩)] w fun r w' => r = .returned (.tuple #[.int .i64 (x.ps.getD (x.firsts g + i) 0), .int .i64 0]) ∧ Below w.heap.size w w' := by
  have c6 : w.cell? ⟨x.gu, 6, none⟩ = some (.slice (some ⟨x.gp, 0, none⟩) (x.n + 1) (x.n + 1)) := blk_cell hu rfl
  have cb : w.cell? ⟨gb, 0, none⟩ = some (.pointer (some ⟨x.gu, 0, none⟩)) := blk_cell hb rfl
  have cq : w.cell? ⟨gq, 0, none⟩ = some (.pointer (some ⟨g, 0, none⟩)) := blk_cell hq rfl
  have ci : w.cell? ⟨gi, 0, none⟩ = some (.int .i64 i) := blk_cell hi rfl
  have cg : w.cell? ⟨g, 0, none⟩ = some (.int .i64 (x.firsts g)) := blk_cell hg rfl
  have z1 := blk_lt hu
  have z2 := blk_lt hb
  have z3 := blk_lt hq
  have z4 := blk_lt hi
  have z5 := blk_lt hg
  have hn := hs.nn
  obtain ⟨z, hz⟩ : ∃ z, x.ps.getD (x.firsts g + i) 0 = z := ⟨_, rfl⟩
  have cp : w.cell? ⟨x.gp, x.firsts g + i, none⟩ = some (.int .i64 z) := by obtain ⟨cs, k1, _, _, k4⟩ := hs.pl; rw [← hz]; exact blk_cell k1 (k4 _ (by omega))
  have z6 : x.gp < w.heap.size := by obtain ⟨cs, k1, _⟩ := hs.pl; exact blk_lt k1
  rw [hz]
  generalize x.firsts g = F at *
  obtain ⟨N, hN⟩ : ∃ N, F + i = N := ⟨_, rfl⟩
  have hN2 : (F : Int) + (i : Int) = N := by omega
  rw [hN] at cp hk
  clear hs hu hb hq hi hg hz
  go_enter Tryz.func200, Tryz.ntmps200
  go_wp2_with fail
  go_quiet (fail)
  all_goals go_wp2_with fail
  all_goals
    go_ret2
    exact ⟨rfl, below_drewN (Below.refl _ _) _⟩

set_option maxHeartbeats 1000000 in
theorem instr1_any (x : SU) (rv : Value) (gb gl b len c k : Nat) (cur : Array Value) (kd : ByteArray) (r add : Int) (nm : List UInt8) (w : World) (hs : S0 x w) (hu : w.heap[x.gu]? = some (.cells (x.C rv) 133 (0, 0))) (hb : w.heap[gb]? = some (.cells #[.pointer (some ⟨x.gu, 0, none⟩)] 163 (0, 0))) (hl : w.heap[gl]? = some (.cells #[.slice (some ⟨b, 0, none⟩) (len + 1) c] 169 (0, 0)))
    (hc : w.heap[b]? = some (.cells cur 216 (0, 0))) (q0 : cur[0]? = some (.string kd)) (q1 : cur[1]? = some (.int .i64 r)) (q2 : cur[2]? = some (.string ⟨nm.toArray⟩)) (q3 : cur[3]? = some (.int .i64 add)) (hn : nm ≠ []) (hnl : nm.length ≤ maxLen) (hk : labelAt nm x.labs = some k) (h2 : -1000000000000 ≤ add) (h3 : add ≤ 1000000000000) :
    Calls Tryz.prog 168 #[.pointer (some ⟨gb, 0, none⟩), .pointer (some ⟨gl, 0, none⟩)] w fun e w' => e = .returned (.tuple #[.int .i64 (x.ps.getD k 0 + add), .int .i64 0]) ∧ Below w.heap.size w w' := by
  have HP := Lib.hid fun W (hb : Below w.heap.size w W) => placeOf_found x.gu x.gp x.mb k x.n x.e x.nv x.iv x.pp rv x.ln add nm x.labs x.ps W (by rw [hb.block _ (blk_lt hu)]; exact hu) (hs.lb.go hb) (hs.pl.go hb) hn hnl hk (hs.lab nm k hk) hs.nn (hs.bd k).1 (hs.bd k).2 h2 h3
  have cb : w.cell? ⟨gb, 0, none⟩ = some (.pointer (some ⟨x.gu, 0, none⟩)) := blk_cell hb rfl
  have cl : w.cell? ⟨gl, 0, none⟩ = some (.slice (some ⟨b, 0, none⟩) (len + 1) c) := blk_cell hl rfl
  have c0 : w.cell? ⟨b, 0, none⟩ = some (.string kd) := blk_cell hc q0
  have c1 : w.cell? ⟨b, 1, none⟩ = some (.int .i64 r) := blk_cell hc q1
  have c2 : w.cell? ⟨b, 2, none⟩ = some (.string ⟨nm.toArray⟩) := blk_cell hc q2
  have c3 : w.cell? ⟨b, 3, none⟩ = some (.int .i64 add) := blk_cell hc q3
  have z2 := blk_lt hb
  have z3 := blk_lt hl
  have z4 := blk_lt hc
  clear hs hu hb hl hc
  generalize x.ps.getD k 0 + add = z at *
  go_enter Tryz.func168, Tryz.ntmps168
  go_wp2_with fail
  go_region_with (go_at_call 131; refine (HP.out _ (by repeat' first | exact Below.refl _ _ | apply Below.drew)).mono ?_; rintro e w1 ⟨rfl, hb1⟩)
  all_goals go_wp2
  all_goals go_ret2
  all_goals exact ⟨rfl, Below.trans (by repeat' first | exact Below.refl _ _ | apply Below.drew) hb1⟩

end Go.Proofs.YtbpoiajpcahdhaaGreatDoor
