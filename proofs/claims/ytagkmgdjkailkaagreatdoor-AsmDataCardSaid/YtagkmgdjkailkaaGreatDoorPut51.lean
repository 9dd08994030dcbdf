/- pllaw5's alive. asm: the unit of a source of lines of .long. pllaw5.AsmData. pllaw5.AsmData's own walk. -/
import Derived.Test.YtagkmgdjkailkaaGreatDoorPut50
import Derived.Test.YtagkmgdjkailkaaGreatDoorPut27
import Derived.Lib.SmallJoins
import Derived.Test.YtagkmgdjkailkaaGreatDoorDsShelf
import Derived.Lib.ItoaMem
import Derived.Lib.ItoaLen
import Derived.Lib.ConvBytes
import Derived.Lib.AtoiErrMem
namespace Go.Proofs.YtagkmgdjkailkaaGreatDoor
open Go.RowKit Go.Maps Go.MapKept

def bC (l : List UInt8) : Array Value := (l.map fun c => (.int .u8 (c.toNat : Int) : Value)).toArray
def srcN : List UInt8 := [110, 111, 112]
theorem src_nop : Sc.srcLines srcN = .ok lnNop := by kernel_rfl

/-- Bytes that lie in a new block. -/
theorem reads_lit (l : List UInt8) (W : World) (g : Nat) (C : Array Value) (f : Nat × Nat) (hC : C = bC l) (h : W.heap[g]? = some (.cells C 5 f)) (hl : l.length ≤ 1000) : Sc.BReads W (.slice (some ⟨g, 0, none⟩) l.length l.length) l := by
  subst hC
  refine ⟨_, _, rfl, by unfold maxLen; omega, fun _ => ⟨g, 0, rfl, blk_lt h, fun i hi => ?_⟩⟩
  have : (bC l)[0 + i]? = some (.int .u8 (l[i].toNat : Int)) := by simp [bC, hi]
  simp only [World.cell?, h]
  simpa using this

set_option maxHeartbeats 8000000 in
set_option maxRecDepth 100000 in
theorem alive_any (w : World) (hA : AllLaid w) :
    Calls Tryz.prog 5 #[] w fun e w' => e = .returned (.bool true) ∧ Below w.heap.size w w' := by
  have kc := fun (w : World) (C : Array Value) (n c : Nat) => Lib.run_convert_bytes_const (P := Tryz.prog) w 24 5 C n c Tryz.underlying24 Tryz.underlying5
  have HUN := Lib.hid fun v W (hb : Below w.heap.size w W) (hv : Sc.BReads W v srcA) => unit_alive v W ⟨hA.isa.below hb hA.isa.sz, hA.frm.below hb hA.frm.sz, KL.below hA.ex hb, hA.gl.below hb hA.gl.sz⟩ hv
  have HBN := Lib.hid fun v W (hb : Below w.heap.size w W) (hv : LIn W v lnNop) => build_nop v W ⟨hA.isa.below hb hA.isa.sz, hA.frm.below hb hA.frm.sz, KL.below hA.ex hb, hA.gl.below hb hA.gl.sz⟩ hv
  clear hA
  go_enter Tryz.func5, Tryz.ntmps5
  go_wp2_with fail
  have hb0 : ∀ (o : Obj), Below w.heap.size w (w.alloc o) := fun o => oalloc w o
  refine (HUN.out _ _ (hb0 _) (reads_lit srcA _ w.heap.size _ _ rfl (new_at _ _ rfl) (by decide))).mono ?_
  rintro e w1 ⟨⟨ca, cl, cc, sa, sl, sc, qa, ql, qc, rfl, hob⟩, hb1⟩
  obtain ⟨hc1, hc2, hc3⟩ := hob
  obtain ⟨ad1, cp1, e1, _⟩ := id hc1
  injection e1 with e1a e1 e1c
  obtain ⟨ad2, cp2, e2, _⟩ := id hc2
  injection e2 with e2a e2 e2c
  obtain ⟨ad3, cp3, e3, _, hr3⟩ := id hc3
  injection e3 with e3a e3 e3c
  subst e1 e2 e3 e1a e1c e2a e2c e3a e3c
  obtain ⟨rb, ro, rfl, hrlt, hrc⟩ := hr3 (by decide)
  obtain ⟨r0, r1, r2, r3⟩ := hrc 0 (by decide)
  simp only [show obA.code.length = 12 from rfl, show obA.syms.length = 1 from rfl, show obA.rels.length = 1 from rfl, Nat.zero_mul, Nat.add_zero, show (obA.rels[0]'(by decide)).pos = 8 from rfl, show (obA.rels[0]'(by decide)).size = 4 from rfl, show (obA.rels[0]'(by decide)).name = [] from rfl, show (obA.rels[0]'(by decide)).add = 0 from rfl] at r0 r1 r2 r3 ⊢
  have HB1 : Hid (Below w.heap.size w w1) := (hb0 _).trans (hb1.mono (by simp))
  have kc2 : ∀ A B : Obj, (convert 24 24 (.slice (some ⟨w1.heap.size + 1 + 1, 0, none⟩) 3 3)).run Tryz.prog (((w1.alloc A).alloc B).alloc (.cells #[.int .u8 110, .int .u8 111, .int .u8 112] 5)) = .ok (.slice (some ⟨w1.heap.size + 1 + 1, 0, none⟩) 3 3) (((w1.alloc A).alloc B).alloc (.cells #[.int .u8 110, .int .u8 111, .int .u8 112] 5 (3, 4))) := fun A B => by
    have := Lib.run_convert_bytes_const (P := Tryz.prog) ((w1.alloc A).alloc B) 24 5 #[.int .u8 110, .int .u8 111, .int .u8 112] 3 3 Tryz.underlying24 Tryz.underlying5
    simpa using this
  clear hb1 hc1 hc2 hc3 hrc hr3 HUN hb0 kc
  go_wp2_with fail
  clear kc2
  obtain ⟨hs1, hs2, hs3⟩ := Sc.src_ok src_nop
  refine (Sc.rlines_any (some ⟨w1.heap.size + 1 + 1, 0, none⟩) 3 srcN _ (reads_lit srcN _ (w1.heap.size + 1 + 1) _ _ rfl (new_at _ _ (by simp)) (by decide)) (by decide)).mono ?_
  rintro e w2 ⟨⟨lv, ps, rfl, hps, hlo⟩, hb2⟩
  rw [hs1, hs2]
  rw [hs3] at hps
  have hlin := lin_of hlo
  rw [hps] at hlin
  obtain ⟨la, lc, hlv⟩ := row_shape hlo.row
  subst hlv
  have hpl : ps.length = 1 := by have := congrArg List.length hps; simpa [lnNop] using this
  have hB2 : Below w1.heap.size w1 w2 := Below.trans (by go_grown) (hb2.mono (by go_size))
  have x0 : w2.heap[w1.heap.size]? = some (.cells #[.slice ca 12 cc, .slice sa 1 sc, .slice (some ⟨rb, ro, none⟩) 1 qc] 28 (0, 0)) := by rw [hb2.block _ (by go_size), old2 _ _ (by go_size), old2 _ _ (by go_size)]; exact new_at _ _ rfl
  have x1 : w2.heap[w1.heap.size + 1]? = some (.cells #[.int .i64 0, .int .i64 0] 31 (0, 0)) := by rw [hb2.block _ (by go_size), old2 _ _ (by go_size)]; exact new_at _ _ (by go_size)
  have HB2 := Lib.hid hB2
  have X0 := Lib.hid x0
  have X1 := Lib.hid x1
  have HLI := Lib.hid hlin
  rw [hpl]
  rw [hpl] at HLI
  clear hb2 hB2 x0 x1 hlo hps hlin hs1 hs2 hs3
  go_wp2_with fail
  have hB3 : Below w.heap.size w (w2.alloc (.cells #[.int .i64 0, .int .i64 0] 31)) := (HB1.out.trans (HB2.out.mono HB1.out.size)).alloc (Nat.le_trans HB1.out.size HB2.out.size) _
  have hli3 : LIn (w2.alloc (.cells #[.int .i64 0, .int .i64 0] 31)) (.slice la 1 lc) lnNop := by
    have hb : Below w2.heap.size w2 (w2.alloc (.cells #[.int .i64 0, .int .i64 0] 31)) := oalloc _ _
    obtain ⟨ad', cap', e, hh⟩ := HLI.out
    refine ⟨ad', cap', e, fun h0 => ?_⟩
    obtain ⟨b, o, rfl, hlt, hc⟩ := hh h0
    refine ⟨b, o, rfl, Nat.lt_of_lt_of_le hlt hb.size, fun i hi => ?_⟩
    obtain ⟨tv, a1, a2, a3⟩ := hc i hi
    exact ⟨tv, by rw [hb.cell (by exact hlt)]; exact a1, by rw [hb.cell (by exact hlt)]; exact a2, a3.below hb (Nat.le_refl _)⟩
  refine (HBN.out _ _ hB3 hli3).mono ?_
  rintro e w3 ⟨⟨pa, pl, pc, sa', sl', sc', qa', ql', qc', rfl, hob⟩, hb3⟩
  obtain ⟨ad4, cp4, e4, _⟩ := id hob.1
  injection e4 with e4a e4 e4c
  subst e4 e4a e4c
  simp only [show obNop.code.length = 2 from rfl]
  have hB23 : Below w2.heap.size w2 w3 := (oalloc _ _).trans (hb3.mono (by simp))
  have y0 := (hB23.block _ (blk_lt X0.out)).trans X0.out
  have y1 := (hB23.block _ (blk_lt X1.out)).trans X1.out
  have o0 : w3.cell? ⟨w1.heap.size, 0, none⟩ = some (.slice ca 12 cc) := blk_cell y0 rfl
  have o1 : w3.cell? ⟨w1.heap.size, 1, none⟩ = some (.slice sa 1 sc) := blk_cell y0 rfl
  have o2 : w3.cell? ⟨w1.heap.size, 2, none⟩ = some (.slice (some ⟨rb, ro, none⟩) 1 qc) := blk_cell y0 rfl
  obtain ⟨⟨v0, v1⟩, _⟩ := var2_of y1
  have zz := blk_lt y1
  have hr4 := hB23.cell (p := ⟨rb, ro, none⟩) (by show rb < w2.heap.size; exact Nat.lt_of_lt_of_le hrlt HB2.out.size)
  have hr5 := HB2.out.cell (p := ⟨rb, ro, none⟩) (by exact hrlt)
  have r8 : w3.cell? ⟨rb, ro, none⟩ = some (.int .i64 8) := hr4.trans (hr5.trans r0)
  have zr : rb < w3.heap.size := Nat.lt_of_lt_of_le hrlt (Nat.le_trans HB2.out.size hB23.size)
  have HB3 : Hid (Below w.heap.size w w3) := (HB1.out.trans (HB2.out.mono HB1.out.size)).trans (hB23.mono (Nat.le_trans HB1.out.size HB2.out.size))
  have lift : ∀ (p : Addr) (x : Value) (A B : Obj), p.block < w3.heap.size → w3.cell? p = some x → ((w3.alloc A).alloc B).cell? p = some x := fun p x A B hp hx => by
    have hb : Below w3.heap.size w3 ((w3.alloc A).alloc B) := (oalloc _ _).trans ((oalloc _ _).mono (by simp))
    rw [hb.cell hp]; exact hx
  have g0 := fun A B => lift _ _ A B (show w1.heap.size < w3.heap.size by omega) o0
  have g1 := fun A B => lift _ _ A B (show w1.heap.size < w3.heap.size by omega) o1
  have g2 := fun A B => lift _ _ A B (show w1.heap.size < w3.heap.size by omega) o2
  have g3 := fun A B => lift _ _ A B (show w1.heap.size + 1 < w3.heap.size by omega) v0
  have g4 := fun A B => lift _ _ A B (show rb < w3.heap.size by omega) r8
  clear hob hb3 hB23 y0 y1 hr4 hr5 r0 r1 r2 r3 hB3 hli3 HBN X0 X1 HLI hrlt o0 o1 o2 v0 v1 r8 lift
  go_wp2_with fail
  go_ret
  exact ⟨rfl, HB3.out.trans (((oalloc _ _).trans ((oalloc _ _).mono (by simp))).mono HB3.out.size)⟩

end Go.Proofs.YtagkmgdjkailkaaGreatDoor

namespace Go.Proofs.YtagkmgdjkailkaaGreatDoor
open Go.RowKit Go.Maps Go.MapKept

/-- The unit behind some lines of .long. -/
structure DatR (w W : World) (gu mb gp : Nat) (its : List It) : Prop where
  bx : Bx w W
  ur : ∃ ln, UR W (gu + 1) gu (.slice none 0 0) ln (.slice none 0 0) (.map (some mb)) (.pointer (some ⟨gp, 0, none⟩)) (.slice none 0 0) (.slice none 0 0) its
  mp : W.heap[mb]? = some (.map #[] 0)
  po : ∃ f mi, W.heap[gp]? = some (.cells #[.int .i64 f, .slice none 0 0, .map (some mi)] 116 (0, 0))

def dataC (l : List (Int × Int)) : List UInt8 := (l.map fun a => (a.1, wrap32 a.2)).flatMap fun a => be4 a.2

theorem dataC_len : ∀ l : List (Int × Int), (dataC l).length = 4 * l.length
  | [] => rfl
  | a :: r => by
    have := dataC_len r
    simp only [dataC, List.map_cons, List.flatMap_cons, List.length_append, List.length_cons] at this ⊢
    rw [this]
    simp [be4]
    omega

theorem write_data (l : List (Int × Int)) : writeU ⟨[], dataI l, fun _ => 0⟩ (tellU 0 (dataI l)) 0 [] [] (dataI l) = .ok (dataC l, []) := by
  have e : dataI l = longI (l.map fun a => (a.1, wrap32 a.2)) := by simp [dataI, longI]
  rw [e, write_long _ _ _ 0 [] [] (fun j hj => by
    rw [Nat.zero_add]
    have := tell_long (l.map fun a => (a.1, wrap32 a.2)) 0 j (by omega) hj
    rw [this]
    omega)]
  rfl

theorem makes_data (w W1 : World) (gu mb gp mi : Nat) (l : List (Int × Int)) (hl : l.length ≤ 1000) (hA : AllLaid w) (h : Begun w W1 gu mb gp mi) : Makes w gu (l.map fun a => (a.1, [tkLong, tkNum a.2])) ⟨dataC l, [], []⟩ W1 := by
  obtain ⟨g1, g2, g3, g4⟩ := h.ge
  obtain ⟨l1, l2, l3⟩ := h.lt
  refine ⟨⟨fun k W => DatR w W gu mb gp (dataI (l.take k)), fun W => DatR w W gu mb gp (dataI l), fun W' => ∃ W, Told w W W' gu mb [] (fun _ => 0) (dataI l) (dataC l) [], ⟨h.bx, ⟨0, h.ur⟩, h.mp, 0, mi, h.po⟩, ?_, ?_, ?_, ?_, ?_⟩⟩
  · rintro k W hn
    obtain ⟨ln, hu⟩ := hn.ur
    obtain ⟨_, _, x1, _⟩ := hu.its
    exact ⟨hn.bx, _, x1, ln, rfl⟩
  · intro k hk W v hn hv
    have hk' : k < l.length := by simpa using hk
    simp only [List.getElem_map] at hv ⊢
    have HT : dataI (l.take (k + 1)) = dataI (l.take k) ++ [numI l[k].1 4 [] (wrap32 l[k].2)] := by
      rw [List.take_succ_eq_append_getElem hk']
      simp only [dataI, List.map_append, List.map_cons, List.map_nil]
    rw [HT]
    obtain ⟨p, n, hpn⟩ : ∃ p n, l[k] = (p, n) := ⟨_, _, rfl⟩
    rw [hpn] at hv ⊢
    simp only at hv ⊢
    obtain ⟨ln, hu⟩ := hn.ur
    obtain ⟨_, _, x1, _⟩ := hu.its
    have hguW := blk_lt x1
    have hB := hn.bx.bel
    obtain ⟨W2, hW2⟩ : ∃ X, X = (W.setCell ⟨gu, 1, none⟩ (.int .i64 p)).alloc (.cells #[v, .int .i64 p] 83) := ⟨_, rfl⟩
    rw [← hW2]
    have hU2 : UR W2 (gu + 1) gu (.slice none 0 0) p (.slice none 0 0) (.map (some mb)) (.pointer (some ⟨gp, 0, none⟩)) (.slice none 0 0) (.slice none 0 0) (dataI (l.take k)) := by rw [hW2]; exact (hu.line p).go (oalloc _ _)
    have hB2 : Below w.heap.size w W2 := by rw [hW2]; exact (hB.setCell (p := ⟨gu, 1, none⟩) (by show w.heap.size ≤ gu; omega) _).alloc (by simpa using hB.size) _
    have kp : ∀ {q : Nat} {o : Obj}, W.heap[q]? = some o → q ≠ gu → W2.heap[q]? = some o := fun {q o} hq hne => by
      rw [hW2, old2 _ _ (by simpa using blk_lt hq), Below.heap_setCell _ _ _ _ hne]
      exact hq
    obtain ⟨f, mi', hp⟩ := hn.po
    have x0 := kp hn.bx.x0 (by omega)
    have x1 := kp hn.bx.x1 (by omega)
    have xm := kp hn.mp (by omega)
    have xp := kp hp (by omega)
    refine (read_long gu (gu + 1) _ _ _ _ _ p _ v n W2 hU2 (hv.below hB2 (Nat.le_refl _)) (KL.below hA.ex hB2) (hA.gl.below hB2 hA.gl.sz) (by simp [dataI]; omega)).mono ?_
    rintro r w' ⟨rfl, hu', hf, _⟩
    exact ⟨rfl, ⟨hB2.trans ((hf.lowd (Nat.le_succ _)).mono (by omega)), (hf.block _ (by omega) (by omega)).trans x0, (hf.block _ (by omega) (by omega)).trans x1⟩, ⟨p, hu'⟩, (hf.block _ (by omega) (by omega)).trans xm, f, mi', (hf.block _ (by omega) (by omega)).trans xp⟩
  · intro W hn
    rw [List.length_map, List.take_length] at hn
    obtain ⟨f, mi', hp⟩ := hn.po
    obtain ⟨ln, hu⟩ := hn.ur
    obtain ⟨_, _, x1, _⟩ := hu.its
    refine (endPool_none gu gp none 0 W (blk_cell x1 rfl) (blk_cell hp rfl)).mono ?_
    rintro r w' ⟨rfl, rfl⟩
    exact ⟨rfl, hn⟩
  · intro W hn
    obtain ⟨ln, hu⟩ := hn.ur
    have hlen : (dataI l).length = l.length := by simp [dataI]
    refine (lay_end (w := w) (W := W) (gu := gu) (mb := mb) (labs := []) (firsts := fun _ => 0) (its := dataI l) (code := dataC l) (rs := []) ?_).mono ?_
    · refine ⟨hn.bx, g1, ⟨_, _, _, hu, World.ownsRow_nil _ _ _ _⟩, lbr_nil hn.mp, hA.isa.below hn.bx.bel hA.isa.sz, ?_, by omega, ?_, ?_, write_data l, ⟨by rw [dataC_len]; omega, by simp⟩, by simp [labelAt], by simp, by simp⟩
      · have := hA.isa.sz; omega
      · intro i hi
        have hla := dataI_laid l i hi
        obtain ⟨a, _, rfl⟩ := List.mem_map.1 hi
        refine ⟨trivial, hla, ⟨by show (1 : Int) ≤ 4; decide, by show (4 : Int) ≤ 16; decide⟩, by show (4 : Int) ≤ 4; decide, .inr (.inr rfl), rfl, by show 0 ≤ maxLen; omega, ?_, ?_⟩ <;> (show _ ≤ _) <;> simp only [wrap32] <;> omega
      · rw [dataI_last]; omega
    · rintro r W' ⟨rfl, ht⟩
      exact ⟨rfl, W, ht⟩
  · rintro W' ⟨W, ht⟩
    exact write_end ht

theorem unit_dat (v : Value) (l : List Int) (w : World) (hA : AllLaid w) (hv : Sc.BReads w v (Sc.dataS l)) (hr : ∀ n, n ∈ l → 0 ≤ n ∧ n < 4294967296) (hl : l.length ≤ 40) :
    Calls Tryz.prog 7 #[v] w fun r w' => (∃ ca cl cc sa sl sc qa ql qc, r = .returned (.tuple #[.agg #[.slice ca cl cc, .slice sa sl sc, .slice qa ql qc], .agg #[.int .i64 0, .int .i64 0]]) ∧ ObjAt w' (.slice ca cl cc) (.slice sa sl sc) (.slice qa ql qc) ⟨dataC (numbered 1 l), [], []⟩) ∧ Below w.heap.size w w' := by
  refine unit_gen v (Sc.dataS l) (Sc.dataLn 1 l) ⟨dataC (numbered 1 l), [], []⟩ w hv (Sc.data_src l hr hl) (by rw [dataLn_len]; omega) (dataLn_head l 1) hA.gl ?_
  intro u W hb hlr
  rw [numbered_ln] at hlr
  have hAW : AllLaid W := ⟨hA.isa.below hb hA.isa.sz, hA.frm.below hb hA.frm.sz, KL.below hA.ex hb, hA.gl.below hb hA.gl.sz⟩
  refine build_gen u _ ⟨dataC (numbered 1 l), [], []⟩ W hlr (by rw [List.length_map, numbered_len]; omega) (fun gu mb gp mi W1 h => makes_data W W1 gu mb gp mi (numbered 1 l) (by rw [numbered_len]; omega) hAW h)

end Go.Proofs.YtagkmgdjkailkaaGreatDoor

namespace Go.Proofs.YtagkmgdjkailkaaGreatDoor
open Go.RowKit Go.Maps Go.MapKept Go.Proofs.YtagkmgdjkailkaaGreatDoor.Isa

theorem rGet_any (ad : Option Addr) (len cap : Nat) (bs : Nat → Int) (a size : Int) (w : World) (hbs : IsByte bs) (hlen : len ≤ maxLen)
    (hrow : 0 < len → ∃ b off, ad = some ⟨b, off, none⟩ ∧ ∀ i, i < len → w.cell? ⟨b, off + i, none⟩ = some (.int .u8 (bs i)))
    (hs0 : 0 ≤ size) (hs1 : size ≤ 6) (ha0 : -1000000000 ≤ a) (ha1 : a ≤ 9223372036854775000) :
    Calls Tryz.prog 9 #[.slice ad len cap, .int .i64 a, .int .i64 size] w fun e w' => e = .returned (.int .i64 (getTo bs len a size.toNat)) ∧ w' = w := by
  unfold maxLen at hlen
  go_enter Tryz.func9, Tryz.ntmps9
  go_wp2
  go_loop [7, 10] (fun n i => ∃ k : Nat, k ≤ size.toNat ∧ i = .int .i64 k ∧ n = .int .i64 (getTo bs len a k)) (fun _ i => size.toNat - (intOf i).toNat)
  case atStart => exact ⟨0, Nat.zero_le _, rfl, rfl⟩
  case round =>
    obtain ⟨k, hk, rfl, rfl⟩ := hrel
    by_cases hlt : k < size.toNat
    · have hk1 : (k : Int) < size := by omega
      have hg := getTo_bd hbs len a k
      have hg1 : getTo bs len a k < 281474976710656 := by
        have hk6 : k = 0 ∨ k = 1 ∨ k = 2 ∨ k = 3 ∨ k = 4 ∨ k = 5 := by omega
        have h2 := hg.2
        rcases hk6 with h | h | h | h | h | h <;> (rw [h] at h2 ⊢; simp at h2; omega)
      have hg0 := hg.1
      have HS : Hid (getTo bs len a (k + 1) = getTo bs len a k * 256 + byteAt bs len (a + k)) := rfl
      clear hg
      generalize getTo bs len a k = g at *
      by_cases hp : 0 ≤ a + k ∧ a + k < (len : Int)
      · obtain ⟨hp0, hp1⟩ := hp
        have HB : Hid (byteAt bs len (a + k) = bs (a + k).toNat) := by simp [Hid, byteAt, hp0, hp1]
        obtain ⟨b, off, rfl, hcell⟩ := hrow (by omega)
        have hc := hcell (a + k).toNat (by omega)
        have hb := hbs (a + k).toNat
        obtain ⟨hb0, hb1⟩ := hb
        clear hcell
        go_wp2
        exact ⟨⟨k + 1, by omega, by go_num, by rw [HS.out, HB.out]⟩, by simp [intOf]; omega⟩
      · have HB : Hid (byteAt bs len (a + k) = 0) := by simp [Hid, byteAt]; omega
        by_cases hp0 : 0 ≤ a + k
        · have hp1 : ¬ a + k < (len : Int) := by omega
          go_wp2
          exact ⟨⟨k + 1, by omega, by go_num, by rw [HS.out, HB.out, Int.add_zero]⟩, by simp [intOf]; omega⟩
        · go_wp2
          exact ⟨⟨k + 1, by omega, by go_num, by rw [HS.out, HB.out, Int.add_zero]⟩, by simp [intOf]; omega⟩
    · have hk1 : ¬ (k : Int) < size := by omega
      have hke : k = size.toNat := by omega
      subst hke
      go_wp2
      go_ret
      exact ⟨rfl, rfl⟩

def byL (l : List UInt8) (i : Nat) : Int := ((l[i]?.map fun c => c.toNat).getD 0 : Nat)
theorem byL_byte (l : List UInt8) : IsByte (byL l) := fun i => by
  unfold byL
  cases h : l[i]? with
  | none => simp
  | some c => simp; have := c.toNat_lt; omega

theorem rget_bytes (l : List UInt8) (v : Value) (w : World) (hv : OBytes w v l) (a k : Int) (hk0 : 0 ≤ k) (hk : k ≤ 6) (ha0 : 0 ≤ a) (ha : a ≤ 9223372036854775000) :
    Calls Tryz.prog 9 #[v, .int .i64 a, .int .i64 k] w fun e w' => e = .returned (.int .i64 (getTo (byL l) l.length a k.toNat)) ∧ w' = w := by
  obtain ⟨ad, cap, rfl, hm, hc⟩ := hv
  refine rGet_any ad l.length cap (byL l) a k w (byL_byte l) hm (fun h0 => ?_) hk0 hk (by omega) ha
  obtain ⟨b, o, rfl, _, hcs⟩ := hc h0
  refine ⟨b, o, rfl, fun i hi => ?_⟩
  rw [hcs i hi]
  simp [byL, hi]

theorem be4_wrap (n : Int) : be4 (wrap32 n) = be4 n := by
  have e : ∀ a b : Int, a % 256 = b % 256 → lowB a = lowB b := fun a b h => by unfold lowB; rw [h]
  unfold be4
  rw [e (wrap32 n / 16777216) (n / 16777216) (by unfold wrap32; omega), e (wrap32 n / 65536) (n / 65536) (by unfold wrap32; omega), e (wrap32 n / 256) (n / 256) (by unfold wrap32; omega), e (wrap32 n) n (by unfold wrap32; omega)]
theorem lowB_num (n : Int) : ((lowB n).toNat : Int) = n % 256 := by
  have h0 := Int.emod_nonneg n (show (256 : Int) ≠ 0 by decide)
  have h1 := Int.emod_lt_of_pos n (show (0 : Int) < 256 by decide)
  unfold lowB
  rw [UInt8.toNat_ofNat', Nat.mod_eq_of_lt (by omega)]
  omega

/-- What is said is there. -/
theorem data_got : ∀ (l : List Int) (s k : Nat) (hk : k < l.length) (c : List UInt8), (∀ n, n ∈ l → 0 ≤ n ∧ n < 4294967296) → getTo (byL (c ++ dataC (numbered s l))) (c ++ dataC (numbered s l)).length ((c.length : Int) + 4 * k) 4 = l[k]
  | [], _, k, hk, _, _ => by simp at hk
  | n :: r, s, 0, hk, c, h => by
    obtain ⟨h0, h1⟩ := h n (by simp)
    have e : dataC (numbered s (n :: r)) = lowB (n / 16777216) :: lowB (n / 65536) :: lowB (n / 256) :: lowB n :: dataC (numbered (s + 1) r) := by
      simp only [numbered, dataC, List.map_cons, List.flatMap_cons, be4_wrap]
      simp [be4]
    rw [e]
    have hx : ∀ j : Nat, j < 4 → byteAt (byL (c ++ (lowB (n / 16777216) :: lowB (n / 65536) :: lowB (n / 256) :: lowB n :: dataC (numbered (s + 1) r)))) (c ++ (lowB (n / 16777216) :: lowB (n / 65536) :: lowB (n / 256) :: lowB n :: dataC (numbered (s + 1) r))).length ((c.length : Int) + 4 * ((0 : Nat) : Int) + j) = (([lowB (n / 16777216), lowB (n / 65536), lowB (n / 256), lowB n] : List UInt8)[j]?.getD 0).toNat := by
      intro j hj
      unfold byteAt
      rw [if_pos ⟨by omega, by simp only [List.length_append, List.length_cons]; omega⟩]
      have : ((c.length : Int) + 4 * ((0 : Nat) : Int) + j).toNat = c.length + j := by omega
      rw [this]
      unfold byL
      rw [List.getElem?_append_right (by omega)]
      have h4 : j = 0 ∨ j = 1 ∨ j = 2 ∨ j = 3 := by omega
      rcases h4 with rfl | rfl | rfl | rfl <;> simp
    have y0 := hx 0 (by omega)
    have y1 := hx 1 (by omega)
    have y2 := hx 2 (by omega)
    have y3 := hx 3 (by omega)
    simp only [List.getElem?_cons_zero, List.getElem?_cons_succ, Option.getD_some, lowB_num] at y0 y1 y2 y3
    simp only [getTo]
    rw [y0, y1, y2, y3, List.getElem_cons_zero]
    omega
  | n :: r, s, k + 1, hk, c, h => by
    have ih := data_got r (s + 1) k (by simpa using hk) (c ++ be4 (wrap32 n)) fun m hm => h m (by simp [hm])
    have e : dataC (numbered s (n :: r)) = be4 (wrap32 n) ++ dataC (numbered (s + 1) r) := by simp [numbered, dataC]
    rw [e, ← List.append_assoc]
    have e2 : ((c ++ be4 (wrap32 n)).length : Int) + 4 * k = (c.length : Int) + 4 * ((k + 1 : Nat) : Int) := by simp [be4]; omega
    rw [← e2]
    simpa using ih

end Go.Proofs.YtagkmgdjkailkaaGreatDoor

namespace Go.Proofs.YtagkmgdjkailkaaGreatDoor
open Go.RowKit Go.Maps Go.MapKept

/-- A slice of whole numbers. -/
def IRd (w : World) (a : Option Addr) (l : List Int) : Prop := (∀ n, n ∈ l → -9223372036854775808 ≤ n ∧ n ≤ 9223372036854775807) ∧ l.length ≤ 140737488351232 ∧ (0 < l.length → ∃ b o, a = some ⟨b, o, none⟩ ∧ b < w.heap.size ∧ ∀ i (h : i < l.length), w.cell? ⟨b, o + i, none⟩ = some (.int .i64 l[i]))

theorem AllLaid.next {w w' : World} (h : AllLaid w) (hb : Below w.heap.size w w') : AllLaid w' := ⟨h.isa.below hb h.isa.sz, h.frm.below hb h.frm.sz, KL.below h.ex hb, h.gl.below hb h.gl.sz⟩

theorem itoa_of (n : Int) (h0 : -9223372036854775808 ≤ n) (h1 : n ≤ 9223372036854775807) (w : World) (hG : Sc.Glob w) :
    Calls Tryz.prog 6 #[.int .i64 n] w fun e w' => e = .returned (.string ⟨(Lib.itoa n).toArray⟩) ∧ Below w.heap.size w w' := by
  refine (Tryz.strconv_Itoa n h0 h1 w hG.tab).mono ?_
  rintro e w' ⟨rfl, k, os, rfl⟩
  exact ⟨rfl, Lib.below_grow _ w (Nat.le_refl _) k os⟩

set_option maxHeartbeats 8000000 in
set_option maxRecDepth 100000 in
theorem data_any (a : Option Addr) (cap : Nat) (l : List Int) (w : World) (hA : AllLaid w) (hl : IRd w a l) :
    Calls Tryz.prog 4 #[.slice a l.length cap] w fun e w' => e = .returned (.bool true) ∧ Below w.heap.size w w' := by
  have HA := Lib.hid hA
  have HL := Lib.hid hl
  have hln := hl.2.1
  clear hA hl
  have HAL := Lib.hid (alive_any w HA.out)
  go_enter Tryz.func4, Tryz.ntmps4
  go_wp2_with (go_at_call 5; refine HAL.out.mono ?_; rintro e w1 ⟨rfl, hb1⟩; have HB1 := Lib.hid hb1; clear hb1)
  go_loopw [3, 14] (fun sv iv wr => ∃ k : Nat, k ≤ l.length ∧ iv = .int .i64 k ∧ sv = .string ⟨(Sc.dataS (l.take k)).toArray⟩ ∧ Hid (∀ n, n ∈ l.take k → 0 ≤ n ∧ n < 4294967296) ∧ Hid (Below w.heap.size w wr)) (fun _ iv _ => l.length - (intOf iv).toNat)
  case atStart => exact ⟨0, Nat.zero_le _, rfl, rfl, by unfold Hid; simp, HB1⟩
  case round =>
    obtain ⟨k, hk, rfl, rfl, HR, HB⟩ := hrel
    have hsl := Sc.dataS_len _ HR.out
    rw [List.length_take] at hsl
    by_cases hlt : k < l.length
    · have hk' : (k : Int) < l.length := by omega
      obtain ⟨hrg, _, hcl⟩ := id HL.out
      obtain ⟨b, o, rfl, hbl, hcell⟩ := hcl (by omega)
      have r0 := hcell k hlt
      obtain ⟨hn0, hn1⟩ := hrg l[k] (List.getElem_mem _)
      obtain ⟨n, hn⟩ : ∃ n, l[k] = n := ⟨_, rfl⟩
      rw [hn] at r0 hn0 hn1
      replace r0 := (HB.out.cell (by show b < w.heap.size; exact hbl)).trans r0
      have hbr : b < wr.heap.size := Nat.lt_of_lt_of_le hbl HB.out.size
      clear hcell hcl hrg
      by_cases g0 : n < 0
      · go_wp2_with fail
        go_ret
        exact ⟨rfl, HB.out⟩
      · by_cases g1 : n ≥ 4294967296
        · have g1' : 4294967296 ≤ n := g1
          go_wp2_with fail
          go_ret
          exact ⟨rfl, HB.out⟩
        · have HT : Hid (Sc.dataS (l.take (k + 1)) = Sc.dataS (l.take k) ++ (Sc.dataL n ++ [10])) := by
            unfold Hid
            rw [List.take_succ_eq_append_getElem hlt, hn]
            simp [Sc.dataS]
          have HR2 : Hid (∀ n, n ∈ l.take (k + 1) → 0 ≤ n ∧ n < 4294967296) := by
            unfold Hid
            rw [List.take_succ_eq_append_getElem hlt, hn]
            intro m hm
            rcases List.mem_append.1 hm with hm | hm
            · exact HR.out m hm
            · obtain rfl := List.mem_singleton.1 hm
              omega
          have HIT := Lib.hid fun W (hb : Below w.heap.size w W) => itoa_of n hn0 hn1 W (HA.out.gl.below hb HA.out.gl.sz)
          have hil := Lib.itoa_length_le n hn0 hn1
          have HIE : Hid (Sc.dataL n = [46, 108, 111, 110, 103, 32] ++ Lib.itoa n) := rfl
          generalize Lib.itoa n = it at *
          generalize Sc.dataS (l.take k) = ds at *
          go_wp2_with (go_at_call 6; refine (HIT.out _ HB.out).mono ?_; rintro e w2 ⟨rfl, hb2⟩; have HB2 := Lib.hid (HB.out.trans (hb2.mono HB.out.size)); clear hb2)
          refine ⟨⟨k + 1, by omega, by go_num, ?_, HR2, HB2⟩, by simp [intOf]; omega⟩
          rw [HT.out, HIE.out]
          exact congrArg Value.string (ByteArray.ext (by simp [ByteArray.data_append]))
    · obtain rfl : k = l.length := by omega
      have hk' : ¬ ((l.length : Nat) : Int) < l.length := by omega
      rw [List.take_length] at HR hsl ⊢
      by_cases h40 : l.length > 40
      · have h40' : (40 : Int) < l.length := by omega
        go_wp2_with fail
        go_ret
        exact ⟨rfl, HB.out⟩
      · have h40' : ¬ (40 : Int) < l.length := by omega
        have hcv := Lib.run_convert_string_bytes (P := Tryz.prog) wr 9 24 5 ⟨(Sc.dataS l).toArray⟩ Tryz.underlying9 Tryz.underlying24 Tryz.underlying5
        go_wp2_with fail
        have hbW : Below wr.heap.size wr (Lib.bytesWorld wr 5 ⟨(Sc.dataS l).toArray⟩) := Lib.bytesWorld_below _ _ _
        have hbr : Sc.BReads (Lib.bytesWorld wr 5 ⟨(Sc.dataS l).toArray⟩) (.slice (some ⟨wr.heap.size, 0, none⟩) (Sc.dataS l).length (grownCap wr (Sc.dataS l).length 0 5)) (Sc.dataS l) := by
          refine ⟨_, _, rfl, by unfold maxLen; omega, fun _ => ⟨_, _, rfl, by rw [Lib.bytesWorld_size]; omega, fun i hi => ?_⟩⟩
          rw [Nat.zero_add, Lib.bytesWorld_cell _ _ _ _ (by simpa [ByteArray.size] using hi)]
          simp [List.getD, hi]
        have hBW : Below w.heap.size w (Lib.bytesWorld wr 5 ⟨(Sc.dataS l).toArray⟩) := HB.out.trans (hbW.mono HB.out.size)
        refine (unit_dat _ l _ (HA.out.next hBW) hbr HR.out (by omega)).mono ?_
        rintro e w3 ⟨⟨ca, cl, cc, sa, sl, sc, qa, ql, qc, rfl, hob⟩, hb3⟩
        obtain ⟨hc1, hc2, hc3⟩ := hob
        have hgot := fun k (hk : k < l.length) => data_got l 1 k hk [] HR.out
        simp only [List.nil_append, List.length_nil] at hgot
        have hcl := dataC_len (numbered 1 l)
        rw [numbered_len] at hcl
        have HG := Lib.hid fun W (hb : Below w3.heap.size w3 W) k (hk : k < l.length) => rget_bytes _ _ W (hc1.below hb (Nat.le_refl _)) (4 * (k : Int)) 4 (by omega) (by omega) (by omega) (by omega)
        have HGOT := Lib.hid hgot
        obtain ⟨ad1, cp1, e1, _⟩ := id hc1
        injection e1 with e1a e1 e1c
        obtain ⟨ad3, cp3, e3, _⟩ := id hc3
        injection e3 with e3a e3 e3c
        rw [hcl] at e1
        simp only [List.length_nil] at e3
        subst e1 e3 e1a e1c e3a e3c
        have HB3 := Lib.hid (hBW.trans (hb3.mono hBW.size))
        clear hc1 hc2 hc3 hb3 hBW hbW hbr hgot hcv
        go_wp2_with fail
        obtain ⟨W4, hW4⟩ : ∃ X, X = (w3.alloc (.cells #[.slice ca (4 * l.length) cc, .slice sa sl sc, .slice qa 0 qc] 28)).alloc (.cells #[.int .i64 0, .int .i64 0] 31) := ⟨_, rfl⟩
        have c0 : W4.cell? ⟨w3.heap.size, 0, none⟩ = some (.slice ca (4 * l.length) cc) := by
          have : W4.heap[w3.heap.size]? = some (.cells #[.slice ca (4 * l.length) cc, .slice sa sl sc, .slice qa 0 qc] 28 (0, 0)) := by rw [hW4, old2 _ _ (by go_size)]; exact new_at _ _ rfl
          exact blk_cell this rfl
        have z0 : w3.heap.size < W4.heap.size := by rw [hW4]; go_size
        have hb4 : Below w3.heap.size w3 W4 := by rw [hW4]; go_grown
        rw [← hW4]
        have HB4 := Lib.hid (HB3.out.trans (hb4.mono HB3.out.size))
        have HG4 := Lib.hid (HG.out W4 hb4)
        clear hW4 hb4 HG
        go_loop [60] (fun iv => ∃ k : Nat, k ≤ l.length ∧ iv = .int .i64 k) (fun iv => l.length - (intOf iv).toNat)
        case atStart => exact ⟨0, Nat.zero_le _, rfl⟩
        case round =>
          obtain ⟨k, hk, rfl⟩ := hrel
          by_cases hlt : k < l.length
          · have hk' : (k : Int) < l.length := by omega
            obtain ⟨_, _, hcl⟩ := id HL.out
            obtain ⟨b, o, rfl, hbl, hcell⟩ := hcl (by omega)
            have r0 := hcell k hlt
            have HGK := Lib.hid (HG4.out k hlt)
            have hgot := HGOT.out k hlt
            obtain ⟨n, hn⟩ : ∃ n, l[k] = n := ⟨_, rfl⟩
            rw [hn] at r0 hgot
            simp only [Int.natCast_zero, Int.zero_add] at hgot
            have HGK2 : Hid (Calls Tryz.prog 9 #[.slice ca (4 * l.length) cc, .int .i64 (4 * (k : Int)), .int .i64 4] W4 fun e w' => e = .returned (.int .i64 n) ∧ w' = W4) := by
              have := HGK.out
              rw [show (4 : Int).toNat = 4 from rfl, hgot] at this
              exact this
            replace r0 := (HB4.out.cell (by show b < w.heap.size; exact hbl)).trans r0
            have hbr : b < W4.heap.size := Nat.lt_of_lt_of_le hbl HB4.out.size
            clear hcell hcl HGK hgot
            go_wp2_with (go_at_call 9; refine HGK2.out.mono ?_; rintro e W5 ⟨rfl, rfl⟩)
            exact ⟨⟨k + 1, by omega, by go_num⟩, by simp [intOf]; omega⟩
          · obtain rfl : k = l.length := by omega
            have hk' : ¬ ((l.length : Nat) : Int) < l.length := by omega
            go_wp2_with fail
            go_ret
            exact ⟨rfl, HB4.out⟩

end Go.Proofs.YtagkmgdjkailkaaGreatDoor
