/- asm: lines built, whatever each of them makes. asm: the unit of a source, whatever its lines make. asm: the bytes of any item. asm: places laid and all written: the end of build, where nothing must be long. asm: 'nop' built. asm: the unit of three lines that is asked for ahead of all else. asm: the three lines read. What is laid stays; numbers as texts. asm: numbers of .word kept. asm: the first of the three lines read: a label, and a load off the pool. asm: the lines of a branch and of what it leads over, read. asm: operands as data: registers, numbers, names, each read; a line of an instruction, with or without a label. The source of AsmFar, and its lines: functions of lists; no program in this text. -/
import Derived.Test.YtgjmbjahgcndnaaGreatDoorPut37
import Derived.Test.YtgjmbjahgcndnaaGreatDoorPut33
import Derived.Test.YtgjmbjahgcndnaaGreatDoorUdG
import Derived.Test.YtgjmbjahgcndnaaGreatDoorDsShelf
import Derived.Lib.ConvBytes
import Derived.Lib.AtoiErrMem
import Derived.Test.YtgjmbjahgcndnaaGreatDoorPut32
import Derived.Test.YtgjmbjahgcndnaaGreatDoorPut34
import Derived.Test.YtgjmbjahgcndnaaGreatDoorPut28
namespace Go.Proofs.YtgjmbjahgcndnaaGreatDoor
open Go.RowKit

theorem newPool_more (w : World) : Calls Tryz.prog 70 #[] w fun r w' => r = .returned (.pointer (some ⟨w.heap.size + 1, 0, none⟩)) ∧ w' = (w.alloc (.map #[] 0)).alloc (.cells #[.int .i64 0, .slice none 0 0, .map (some w.heap.size)] 184) := by
  have hmm : ∀ w, (Instr.makeMap 181 none).run Tryz.prog w = .ok (.map (some w.heap.size)) (w.alloc (.map #[] 0)) := fun w => rfl
  go_enter Tryz.func70, Tryz.ntmps70
  go_wp2_with fail
  go_returns
  exact ⟨rfl, rfl⟩

/-- The two boxes that build hands back. -/
structure Bx (w W : World) : Prop where
  bel : Below w.heap.size w W
  x0 : W.heap[w.heap.size]? = some (.cells #[.slice none 0 0, .slice none 0 0, .slice none 0 0] 49 (0, 0))
  x1 : W.heap[w.heap.size + 1]? = some (.cells #[.int .i64 0, .int .i64 0] 36 (0, 0))
/-- A unit begun. -/
structure Begun (w W : World) (gu mb gp mi : Nat) : Prop where
  bx : Bx w W
  ur : UR W (gu + 1) gu (.slice none 0 0) 0 (.slice none 0 0) (.map (some mb)) (.pointer (some ⟨gp, 0, none⟩)) (.slice none 0 0) (.slice none 0 0) []
  mp : W.heap[mb]? = some (.map #[] 0)
  po : W.heap[gp]? = some (.cells #[.int .i64 0, .slice none 0 0, .map (some mi)] 184 (0, 0))
  mq : W.heap[mi]? = some (.map #[] 0)
  ge : w.heap.size + 2 ≤ gu ∧ w.heap.size + 2 ≤ mb ∧ w.heap.size + 2 ≤ gp ∧ w.heap.size + 2 ≤ mi
  lt : mb < gu ∧ gp < gu ∧ mi < gu
  ne : mi ≠ mb

/-- The object that comes of it. -/
def ObjAt (W : World) (c s q : Value) (o : Ob) : Prop := OBytes W c o.code ∧ OSyms W s o.syms ∧ ORels W q o.rels

/-- What lines make: a state behind each, and what comes of the last one. -/
structure Makes (w : World) (gu : Nat) (ls : List (Int × List Tk)) (o : Ob) (W1 : World) : Prop where
  ex : ∃ (ST : Nat → World → Prop) (E F : World → Prop), ST 0 W1 ∧ (∀ k W, ST k W → Bx w W ∧ ∃ c, W.heap[gu]? = some (.cells c 141 (0, 0)) ∧ (∃ z, c[1]? = some (.int .i64 z))) ∧
    (∀ k (hk : k < ls.length) W v, ST k W → PReads w v ls[k].2 → Calls Tryz.prog 71 #[.pointer (some ⟨gu, 0, none⟩), v] ((W.setCell ⟨gu, 1, none⟩ (.int .i64 ls[k].1)).alloc (.cells #[v, .int .i64 ls[k].1] 145)) fun r w' => r = .returned (.int .i64 0) ∧ ST (k + 1) w') ∧
    (∀ W, ST ls.length W → Calls Tryz.prog 72 #[.pointer (some ⟨gu, 0, none⟩)] W fun r w' => r = .returned (.tuple #[]) ∧ E w') ∧
    (∀ W, E W → Calls Tryz.prog 73 #[.pointer (some ⟨gu, 0, none⟩)] W fun r w' => r = .returned (.int .i64 0) ∧ F w') ∧
    (∀ W, F W → Calls Tryz.prog 74 #[.pointer (some ⟨gu, 0, none⟩)] W fun r w' => ∃ ca cl cc sa sl sc qa ql qc, r = .returned (.tuple #[.agg #[.slice ca cl cc, .slice sa sl sc, .slice qa ql qc], .agg #[.int .i64 0, .int .i64 0]]) ∧ ObjAt w' (.slice ca cl cc) (.slice sa sl sc) (.slice qa ql qc) o ∧ Bx w w')

/-- A block that holds no string is changed. -/
theorem cell_apart {w : World} {q i b j : Nat} {c : Array Value} {t : TypeId} {v x : Value} (h : w.heap[q]? = some (.cells c t (0, 0))) (hx : w.cell? ⟨b, j, none⟩ = some x) (hc : ∀ k : Nat, c[k]? ≠ some x) : b ≠ q ∧ ∀ k, (w.setCell ⟨q, i, none⟩ v).cell? ⟨b, k, none⟩ = w.cell? ⟨b, k, none⟩ := by
  have hne : b ≠ q := by
    rintro rfl
    simp only [World.cell?, h] at hx
    exact hc j (by simpa using hx)
  refine ⟨hne, fun k => ?_⟩
  have hk : (w.setCell ⟨q, i, none⟩ v).heap[b]? = w.heap[b]? := Below.heap_setCell _ _ _ _ hne
  simp only [World.cell?, hk]
theorem OSyms.set {w : World} {q i : Nat} {c : Array Value} {t : TypeId} {v x : Value} {l : List Sy} (ho : OSyms w x l) (h : w.heap[q]? = some (.cells c t (0, 0))) (hc : ∀ (k : Nat) (y : ByteArray), c[k]? ≠ some (Value.string y)) : OSyms (w.setCell ⟨q, i, none⟩ v) x l := by
  obtain ⟨ad, cap, rfl, hm, hl⟩ := ho
  refine ⟨ad, cap, rfl, hm, fun h0 => ?_⟩
  obtain ⟨b, o, rfl, hb, hcell⟩ := hl h0
  obtain ⟨_, hk⟩ := cell_apart (i := i) (v := v) h (hcell 0 h0).1 (fun k => hc k _)
  exact ⟨b, o, rfl, by simpa using hb, fun j hj => by rw [hk, hk]; exact hcell j hj⟩
theorem ORels.set {w : World} {q i : Nat} {c : Array Value} {t : TypeId} {v x : Value} {l : List Re} (ho : ORels w x l) (h : w.heap[q]? = some (.cells c t (0, 0))) (hc : ∀ (k : Nat) (y : ByteArray), c[k]? ≠ some (Value.string y)) : ORels (w.setCell ⟨q, i, none⟩ v) x l := by
  obtain ⟨ad, cap, rfl, hm, hl⟩ := ho
  refine ⟨ad, cap, rfl, hm, fun h0 => ?_⟩
  obtain ⟨b, o, rfl, hb, hcell⟩ := hl h0
  obtain ⟨_, hk⟩ := cell_apart (i := i) (v := v) h (hcell 0 h0).2.2.1 (fun k => hc k _)
  exact ⟨b, o, rfl, by simpa using hb, fun j hj => by rw [hk, hk, hk, hk]; exact hcell j hj⟩
theorem ObjAt.set {w : World} {q i : Nat} {c : Array Value} {t : TypeId} {v x y z : Value} {o : Ob} (ho : ObjAt w x y z o) (h : w.heap[q]? = some (.cells c t (0, 0))) (hc : ∀ (k : Nat) (y : ByteArray), c[k]? ≠ some (Value.string y)) (hc8 : ∀ (j : Nat) (n : Int), c[j]? ≠ some (Value.int .u8 n)) : ObjAt (w.setCell ⟨q, i, none⟩ v) x y z o :=
  ⟨ho.1.set h hc8, ho.2.1.set h hc, ho.2.2.set h hc⟩

set_option maxHeartbeats 8000000 in
set_option maxRecDepth 100000 in
theorem build_gen (v : Value) (ls : List (Int × List Tk)) (o : Ob) (w : World) (h : LRd w v ls) (hn : ls.length ≤ 1000) (hall : ∀ gu mb gp mi W1, Begun w W1 gu mb gp mi → Makes w gu ls o W1) :
    Calls Tryz.prog 44 #[v, .slice none 0 0] w fun r w' => (∃ ca cl cc sa sl sc qa ql qc, r = .returned (.tuple #[.agg #[.slice ca cl cc, .slice sa sl sc, .slice qa ql qc], .agg #[.int .i64 0, .int .i64 0]]) ∧ ObjAt w' (.slice ca cl cc) (.slice sa sl sc) (.slice qa ql qc) o) ∧ Below w.heap.size w w' := by
  have HALL := Lib.hid hall
  clear hall
  have hmm : ∀ w, (Instr.makeMap 89 none).run Tryz.prog w = .ok (.map (some w.heap.size)) (w.alloc (.map #[] 0)) := fun w => rfl
  obtain ⟨va, vc, rfl, _⟩ := id h
  have HV := Lib.hid h
  clear h
  go_enter Tryz.func44, Tryz.ntmps44
  go_wp2_with fail
  refine (newPool_more _).mono ?_
  rintro e w1 ⟨rfl, rfl⟩
  go_wp2_with fail
  obtain ⟨W1, hW1⟩ : ∃ X, X = ((((((w.alloc (.cells #[.slice none 0 0, .slice none 0 0, .slice none 0 0] 49)).alloc (.cells #[.int .i64 0, .int .i64 0] 36)).alloc (.map #[] 0)).alloc (.map #[] 0)).alloc (.cells #[.int .i64 0, .slice none 0 0, .map (some (w.heap.size + 1 + 1 + 1))] 184)).alloc (.cells #[.slice none 0 0, .int .i64 0, .slice none 0 0, .map (some (w.heap.size + 1 + 1)), .slice none 0 0, .pointer (some ⟨w.heap.size + 1 + 1 + 1 + 1, 0, none⟩), .slice none 0 0, .slice none 0 0] 141)) := ⟨_, rfl⟩
  have hz : W1.heap.size = w.heap.size + 1 + 1 + 1 + 1 + 1 + 1 := by rw [hW1]; simp
  have hbeg : Begun w W1 (w.heap.size + 1 + 1 + 1 + 1 + 1) (w.heap.size + 1 + 1) (w.heap.size + 1 + 1 + 1 + 1) (w.heap.size + 1 + 1 + 1) := by
    refine ⟨⟨?_, ?_, ?_⟩, ⟨by omega, by omega, .slice none 0 0, [], ?_, World.ownsRow_nil _ _ _ _, rfl, fun p hp => by simp at hp⟩, ?_, ?_, ?_, by omega, by omega, by omega⟩
    · rw [hW1]; go_grown
    · rw [hW1, old2 _ _ (by go_size), old2 _ _ (by go_size), old2 _ _ (by go_size), old2 _ _ (by go_size), old2 _ _ (by go_size)]; exact new_at _ _ rfl
    · rw [hW1, old2 _ _ (by go_size), old2 _ _ (by go_size), old2 _ _ (by go_size), old2 _ _ (by go_size)]; exact new_at _ _ (by go_size)
    · rw [hW1]; exact new_at _ _ (by go_size)
    · rw [hW1, old2 _ _ (by go_size), old2 _ _ (by go_size), old2 _ _ (by go_size)]; exact new_at _ _ (by go_size)
    · rw [hW1, old2 _ _ (by go_size)]; exact new_at _ _ (by go_size)
    · rw [hW1, old2 _ _ (by go_size), old2 _ _ (by go_size)]; exact new_at _ _ (by go_size)
  obtain ⟨ST, E, F, h0, hbx, hrd, hen, hly, hwr⟩ := (HALL.out _ _ _ _ W1 hbeg).ex
  rw [← hW1]
  obtain ⟨gu, hgu⟩ : ∃ gu, gu = w.heap.size + 1 + 1 + 1 + 1 + 1 := ⟨_, rfl⟩
  rw [← hgu] at hbx hrd hen hly hwr ⊢
  have hg0 : w.heap.size + 2 ≤ gu := by omega
  have HBX := Lib.hid hbx
  have HRD := Lib.hid hrd
  have HEN := Lib.hid hen
  have HLY := Lib.hid hly
  have HWR := Lib.hid hwr
  have H0 := Lib.hid h0
  clear hW1 hz hbeg hbx hrd hen hly hwr h0 HALL hmm hgu
  go_loopw [17] (fun iv wr => ∃ k : Nat, k ≤ ls.length ∧ iv = .int .i64 k ∧ Hid (ST k wr)) (fun iv _ => ls.length - (intOf iv).toNat)
  case atStart => exact ⟨0, Nat.zero_le _, rfl, H0⟩
  case round =>
    obtain ⟨k, hk, rfl, HS⟩ := hrel
    obtain ⟨hbxk, cU, hcu, z, hz⟩ := HBX.out k wr HS.out
    by_cases hlt : k < ls.length
    · have hk' : (k : Int) < ls.length := by omega
      obtain ⟨va', vc', ev, _, hcl⟩ := id HV.out
      injection ev with e1 _ e3
      subst e1 e3
      obtain ⟨b, o', rfl, hbl, hcell⟩ := hcl (by omega)
      obtain ⟨td, tn, tc, r0, r1, r2⟩ := hcell k hlt
      have HC := Lib.hid (HRD.out k hlt wr _ HS.out r2)
      generalize (ls[k]'hlt).1 = p at *
      have c1 : wr.cell? ⟨gu, 1, none⟩ = some (.int .i64 z) := blk_cell hcu hz
      have f1 : wr.frozen? ⟨gu, 1, none⟩ = false := blk_froz hcu
      have hgw := blk_lt hcu
      have hBw := hbxk.bel
      replace r0 := (hBw.cell (by show b < w.heap.size; exact hbl)).trans r0
      replace r1 := (hBw.cell (by show b < w.heap.size; exact hbl)).trans r1
      have hbr : b < wr.heap.size := Nat.lt_of_lt_of_le hbl hBw.size
      have hbn : b ≠ gu := by omega
      clear r2 hBw hcell hcl hbxk hcu hz
      go_wp2_with (first | (go_at_call 71; refine HC.out.mono ?_; rintro e' w3 ⟨rfl, hs3⟩; have HS3 := Lib.hid hs3; clear hs3) | fail)
      exact ⟨⟨k + 1, by omega, by go_num, HS3⟩, by simp [intOf]; omega⟩
    · obtain rfl : k = ls.length := by omega
      have hk' : ¬ ((ls.length : Nat) : Int) < ls.length := by omega
      have HE := Lib.hid (HEN.out wr HS.out)
      clear hbxk hcu hz
      go_wp2_with (first
        | (go_at_call 72; refine HE.out.mono ?_; rintro e' w4 ⟨rfl, hE4⟩)
        | fail)
      refine (HLY.out _ hE4).mono ?_
      rintro e' w5 ⟨rfl, hF5⟩
      have HC := Lib.hid (HWR.out _ hF5)
      clear hF5 hE4 HE HLY HEN HWR HRD HBX
      go_wp2_with (first | (go_at_call 74; refine HC.out.mono ?_; rintro e' w6 ⟨ca, cl, cc, sa, sl, sc, qa, ql, qc, rfl, hob, hbx6⟩; have z0 := hbx6.x0; have z1 := hbx6.x1; have g0 : w6.cell? ⟨w.heap.size, 0, none⟩ = some (.slice none 0 0) := blk_cell z0 rfl; have g1 : w6.cell? ⟨w.heap.size, 1, none⟩ = some (.slice none 0 0) := blk_cell z0 rfl; have g2 : w6.cell? ⟨w.heap.size, 2, none⟩ = some (.slice none 0 0) := blk_cell z0 rfl; have q0 : w6.frozen? ⟨w.heap.size, 0, none⟩ = false := blk_froz z0; have q1 : w6.frozen? ⟨w.heap.size, 1, none⟩ = false := blk_froz z0; have q2 : w6.frozen? ⟨w.heap.size, 2, none⟩ = false := blk_froz z0; obtain ⟨⟨u0, u1⟩, t0, t1⟩ := var2_of z1; have HOB := Lib.hid hob; have HB6 := Lib.hid hbx6.bel; have Z0 := Lib.hid z0; have Z1 := Lib.hid z1; have zz := blk_lt z1; clear hob hbx6 z0 z1) | fail)
      have n3 : ∀ (x y z : Option Addr) (a b c d e f : Nat) (j : Nat) (n : Int), (#[Value.slice x a b, .slice y c d, .slice z e f] : Array Value)[j]? ≠ some (.int .u8 n) := by
        intro x y z a b c d e f j n h
        rcases j with _ | _ | _ | j <;> simp at h
      have m3 : ∀ (x y z : Option Addr) (a b c d e f : Nat) (j : Nat) (n : ByteArray), (#[Value.slice x a b, .slice y c d, .slice z e f] : Array Value)[j]? ≠ some (.string n) := by
        intro x y z a b c d e f j n h
        rcases j with _ | _ | _ | j <;> simp at h
      have n2 : ∀ (a b : Int) (j : Nat) (n : Int), (#[Value.int .i64 a, .int .i64 b] : Array Value)[j]? ≠ some (.int .u8 n) := by
        intro a b j n h
        rcases j with _ | _ | j <;> simp at h
      have m2 : ∀ (a b : Int) (j : Nat) (n : ByteArray), (#[Value.int .i64 a, .int .i64 b] : Array Value)[j]? ≠ some (.string n) := by
        intro a b j n h
        rcases j with _ | _ | j <;> simp at h
      have o1 := HOB.out.set (i := 0) (v := .slice ca cl cc) Z0.out (m3 _ _ _ _ _ _ _ _ _) (n3 _ _ _ _ _ _ _ _ _)
      have z1 := blk_set (i := 0) (v := .slice ca cl cc) Z0.out
      have o2 := o1.set (i := 1) (v := .slice sa sl sc) z1 (m3 _ _ _ _ _ _ _ _ _) (n3 _ _ _ _ _ _ _ _ _)
      have z2 := blk_set (i := 1) (v := .slice sa sl sc) z1
      have o3 := o2.set (i := 2) (v := .slice qa ql qc) z2 (m3 _ _ _ _ _ _ _ _ _) (n3 _ _ _ _ _ _ _ _ _)
      have Z1b : (((w6.setCell ⟨w.heap.size, 0, none⟩ (.slice ca cl cc)).setCell ⟨w.heap.size, 1, none⟩ (.slice sa sl sc)).setCell ⟨w.heap.size, 2, none⟩ (.slice qa ql qc)).heap[w.heap.size + 1]? = some (.cells #[.int .i64 0, .int .i64 0] 36 (0, 0)) := by
        rw [Below.heap_setCell _ _ _ _ (by show w.heap.size + 1 ≠ w.heap.size; omega), Below.heap_setCell _ _ _ _ (by show w.heap.size + 1 ≠ w.heap.size; omega), Below.heap_setCell _ _ _ _ (by show w.heap.size + 1 ≠ w.heap.size; omega)]
        exact Z1.out
      have o4 := o3.set (i := 0) (v := .int .i64 0) Z1b (m2 _ _) (n2 _ _)
      have o5 := o4.set (i := 1) (v := .int .i64 0) (blk_set (i := 0) (v := .int .i64 0) Z1b) (m2 _ _) (n2 _ _)
      exact bodyPost_ret (v := .tuple #[.agg #[.slice ca cl cc, .slice sa sl sc, .slice qa ql qc], .agg #[.int .i64 0, .int .i64 0]]) (by simp [results, Tryz.results44, go_sem, g0, g1, g2, u0, u1]) rfl ⟨⟨ca, cl, cc, sa, sl, sc, qa, ql, qc, rfl, o5⟩, ((((HB6.out.setCell (Nat.le_refl _) _).setCell (Nat.le_refl _) _).setCell (Nat.le_refl _) _).setCell (Nat.le_succ _) _).setCell (Nat.le_succ _) _⟩

end Go.Proofs.YtgjmbjahgcndnaaGreatDoor

namespace Go.Proofs.YtgjmbjahgcndnaaGreatDoor
open Go.RowKit

set_option maxHeartbeats 4000000 in
theorem unit_gen (v : Value) (src : List UInt8) (lns : List Sc.Ln) (o : Ob) (w : World) (hv : Sc.BReads w v src) (hsrc : Sc.srcLines src = .ok lns) (hln : lns.length ≤ 200) (hpl : ∀ x, x ∈ lns → x.toks.length ≤ 100000 ∧ PlainHead (headS (x.toks.map tkOf))) (hG : Sc.Glob w)
    (hbd : ∀ v W, Below w.heap.size w W → LRd W v (lns.map lnOf) → Calls Tryz.prog 44 #[v, .slice none 0 0] W fun r w' => (∃ ca cl cc sa sl sc qa ql qc, r = .returned (.tuple #[.agg #[.slice ca cl cc, .slice sa sl sc, .slice qa ql qc], .agg #[.int .i64 0, .int .i64 0]]) ∧ ObjAt w' (.slice ca cl cc) (.slice sa sl sc) (.slice qa ql qc) o) ∧ Below W.heap.size W w') :
    Calls Tryz.prog 23 #[v] w fun r w' => (∃ ca cl cc sa sl sc qa ql qc, r = .returned (.tuple #[.agg #[.slice ca cl cc, .slice sa sl sc, .slice qa ql qc], .agg #[.int .i64 0, .int .i64 0]]) ∧ ObjAt w' (.slice ca cl cc) (.slice sa sl sc) (.slice qa ql qc) o) ∧ Below w.heap.size w w' := by
  have hs := Sc.src_ok hsrc
  have HLN := Lib.hid fun W (hb : Below w.heap.size w W) => Sc.lines_any v (src) W (hG.below hb hG.sz) (by
    obtain ⟨ad, cap, rfl, hm, hc⟩ := hv
    refine ⟨ad, cap, rfl, hm, fun h0 => ?_⟩
    obtain ⟨b, o, rfl, hlt, hcell⟩ := hc h0
    exact ⟨b, o, rfl, Nat.lt_of_lt_of_le hlt hb.size, fun i hi => by rw [hb.cell (by exact hlt)]; exact hcell i hi⟩)
  obtain ⟨ad, cap, rfl, _⟩ := hv
  obtain ⟨hs1, hs2, hs3⟩ := hs
  have HSH : Hid (∀ v W, LIn W v lns → Calls Tryz.prog 43 #[v] W fun r w' => (∃ lv, r = .returned (.tuple #[lv, .slice none 0 0, .agg #[.int .i64 0, .int .i64 0]]) ∧ LRd w' lv (lns.map lnOf)) ∧ Below W.heap.size W w') := fun v W h => short_any v lns W h hln (fun x hx => (hpl x hx).1) (fun x hx => (hpl x hx).2)
  have HBD := Lib.hid hbd
  clear hG hbd hpl
  go_enter Tryz.func23, Tryz.ntmps23
  go_wp2_with fail
  refine (HLN.out _ (by go_grown)).mono ?_
  rintro e w1 ⟨⟨lv, ps, rfl, hps, hlo⟩, hb1⟩
  rw [hs1, hs2]
  rw [hs3] at hps
  have hlin := lin_of hlo
  rw [hps] at hlin
  obtain ⟨la, lc, hlv⟩ := row_shape hlo.row
  subst hlv
  have x0 : w1.heap[w.heap.size]? = some (.cells #[.slice none 0 0, .slice none 0 0, .slice none 0 0] 49 (0, 0)) := by
    rw [hb1.block _ (by go_size), old2 _ _ (by go_size)]
    exact new_at _ _ rfl
  have x1 : w1.heap[w.heap.size + 1]? = some (.cells #[.int .i64 0, .int .i64 0] 36 (0, 0)) := by
    rw [hb1.block _ (by go_size)]
    exact new_at _ _ (by go_size)
  have HB1 : Hid (Below w.heap.size w w1) := Below.trans (by go_grown) (hb1.mono (by go_size))
  have HSC := Lib.hid fun W (hb : Below w1.heap.size w1 W) => HSH.out (.slice la ps.length lc) W (by
    obtain ⟨ad', cap', e, hh⟩ := hlin
    refine ⟨ad', cap', e, fun h0 => ?_⟩
    obtain ⟨b, o, rfl, hlt, hc⟩ := hh h0
    refine ⟨b, o, rfl, Nat.lt_of_lt_of_le hlt hb.size, fun i hi => ?_⟩
    obtain ⟨tv, a1, a2, a3⟩ := hc i hi
    exact ⟨tv, by rw [hb.cell (by exact hlt)]; exact a1, by rw [hb.cell (by exact hlt)]; exact a2, a3.below hb (Nat.le_refl _)⟩)
  have X0 := Lib.hid x0
  have X1 := Lib.hid x1
  clear hb1 hlo hlin hps x0 x1 HLN HSH hs1 hs2 hs3
  go_wp2_with fail
  refine (HSC.out _ (oalloc _ _)).mono ?_
  rintro e w2 ⟨⟨sv, rfl, hlr⟩, hb2⟩
  obtain ⟨sa, sc, hsv, _⟩ := id hlr
  subst hsv
  obtain ⟨hB2, hz2, yr⟩ := box_keep hb2
  have HB2 := Lib.hid (HB1.out.trans (hB2.mono HB1.out.size))
  have X02 := Lib.hid ((hB2.block _ (blk_lt X0.out)).trans X0.out)
  have X12 := Lib.hid ((hB2.block _ (blk_lt X1.out)).trans X1.out)
  have HLR := Lib.hid hlr
  have YR := Lib.hid yr
  obtain ⟨⟨u0, u1⟩, f0, f1⟩ := var2_of yr
  clear hb2 hB2 yr hlr HSC X0 X1 HB1
  go_wp2_with fail
  have hsame : Below w2.heap.size w2 ((w2.setCell ⟨w1.heap.size, 0, none⟩ (.int .i64 0)).setCell ⟨w1.heap.size, 1, none⟩ (.int .i64 0)) := (same_set YR.out rfl).trans (same_set (same_blk YR.out rfl) rfl)
  have hlr3 := HLR.out.below hsame (Nat.le_refl _)
  simp only [List.length_map] at hlr3
  refine (HBD.out _ _ (HB2.out.trans (hsame.mono HB2.out.size)) hlr3).mono ?_
  rintro e w6 ⟨⟨ca, cl, cc, sa', sl, sc', qa, ql, qc, rfl, hob⟩, hb6⟩
  have hb7 : Below w2.heap.size w2 w6 := hsame.trans (hb6.mono hsame.size)
  have z0 := (hb7.block _ (blk_lt X02.out)).trans X02.out
  have z1 := (hb7.block _ (blk_lt X12.out)).trans X12.out
  have g0 : w6.cell? ⟨w.heap.size, 0, none⟩ = some (.slice none 0 0) := blk_cell z0 rfl
  have g1 : w6.cell? ⟨w.heap.size, 1, none⟩ = some (.slice none 0 0) := blk_cell z0 rfl
  have g2 : w6.cell? ⟨w.heap.size, 2, none⟩ = some (.slice none 0 0) := blk_cell z0 rfl
  have q0 : w6.frozen? ⟨w.heap.size, 0, none⟩ = false := blk_froz z0
  have q1 : w6.frozen? ⟨w.heap.size, 1, none⟩ = false := blk_froz z0
  have q2 : w6.frozen? ⟨w.heap.size, 2, none⟩ = false := blk_froz z0
  obtain ⟨⟨v0, v1⟩, t0, t1⟩ := var2_of z1
  have HOB := Lib.hid hob
  have HB6 := Lib.hid (HB2.out.trans (hb7.mono HB2.out.size))
  have Z0 := Lib.hid z0
  have Z1 := Lib.hid z1
  clear hob hb6 hb7 z0 z1 hsame hlr3 HBD HLR u0 u1 f0 f1
  go_wp2_with fail
  have n3 : ∀ (x y z : Option Addr) (a b c d e f : Nat) (j : Nat) (n : Int), (#[Value.slice x a b, .slice y c d, .slice z e f] : Array Value)[j]? ≠ some (.int .u8 n) := by
    intro x y z a b c d e f j n h
    rcases j with _ | _ | _ | j <;> simp at h
  have m3 : ∀ (x y z : Option Addr) (a b c d e f : Nat) (j : Nat) (n : ByteArray), (#[Value.slice x a b, .slice y c d, .slice z e f] : Array Value)[j]? ≠ some (.string n) := by
    intro x y z a b c d e f j n h
    rcases j with _ | _ | _ | j <;> simp at h
  have n2 : ∀ (a b : Int) (j : Nat) (n : Int), (#[Value.int .i64 a, .int .i64 b] : Array Value)[j]? ≠ some (.int .u8 n) := by
    intro a b j n h
    rcases j with _ | _ | j <;> simp at h
  have m2 : ∀ (a b : Int) (j : Nat) (n : ByteArray), (#[Value.int .i64 a, .int .i64 b] : Array Value)[j]? ≠ some (.string n) := by
    intro a b j n h
    rcases j with _ | _ | j <;> simp at h
  have o1 := HOB.out.set (i := 0) (v := .slice ca cl cc) Z0.out (m3 _ _ _ _ _ _ _ _ _) (n3 _ _ _ _ _ _ _ _ _)
  have z1 := blk_set (i := 0) (v := .slice ca cl cc) Z0.out
  have o2 := o1.set (i := 1) (v := .slice sa' sl sc') z1 (m3 _ _ _ _ _ _ _ _ _) (n3 _ _ _ _ _ _ _ _ _)
  have z2 := blk_set (i := 1) (v := .slice sa' sl sc') z1
  have o3 := o2.set (i := 2) (v := .slice qa ql qc) z2 (m3 _ _ _ _ _ _ _ _ _) (n3 _ _ _ _ _ _ _ _ _)
  have Z1b : (((w6.setCell ⟨w.heap.size, 0, none⟩ (.slice ca cl cc)).setCell ⟨w.heap.size, 1, none⟩ (.slice sa' sl sc')).setCell ⟨w.heap.size, 2, none⟩ (.slice qa ql qc)).heap[w.heap.size + 1]? = some (.cells #[.int .i64 0, .int .i64 0] 36 (0, 0)) := by
    rw [Below.heap_setCell _ _ _ _ (by show w.heap.size + 1 ≠ w.heap.size; omega), Below.heap_setCell _ _ _ _ (by show w.heap.size + 1 ≠ w.heap.size; omega), Below.heap_setCell _ _ _ _ (by show w.heap.size + 1 ≠ w.heap.size; omega)]
    exact Z1.out
  have o4 := o3.set (i := 0) (v := .int .i64 0) Z1b (m2 _ _) (n2 _ _)
  have o5 := o4.set (i := 1) (v := .int .i64 0) (blk_set (i := 0) (v := .int .i64 0) Z1b) (m2 _ _) (n2 _ _)
  exact bodyPost_ret (v := .tuple #[.agg #[.slice ca cl cc, .slice sa' sl sc', .slice qa ql qc], .agg #[.int .i64 0, .int .i64 0]]) (by simp [results, Tryz.results23, go_sem, g0, g1, g2, v0, v1]) rfl ⟨⟨ca, cl, cc, sa', sl, sc', qa, ql, qc, rfl, o5⟩, ((((HB6.out.setCell (Nat.le_refl _) _).setCell (Nat.le_refl _) _).setCell (Nat.le_refl _) _).setCell (Nat.le_succ _) _).setCell (Nat.le_succ _) _⟩

end Go.Proofs.YtgjmbjahgcndnaaGreatDoor

namespace Go.Proofs.YtgjmbjahgcndnaaGreatDoor
open Go.RowKit

theorem ent_fill (args : Array Value) (w : World) : (callFunc 135 args).run Tryz.prog w = .ok (.enter 135 args) w := by kernel_rfl
theorem ent_num (args : Array Value) (w : World) : (callFunc 136 args).run Tryz.prog w = .ok (.enter 136 args) w := by kernel_rfl
theorem ent_plain (args : Array Value) (w : World) : (callFunc 205 args).run Tryz.prog w = .ok (.enter 205 args) w := by kernel_rfl
theorem ent_lead (args : Array Value) (w : World) : (callFunc 196 args).run Tryz.prog w = .ok (.enter 196 args) w := by kernel_rfl

/-- What is asked of an item that is written. -/
def ItOk (x : SU) (w : World) (size : Int) (i : It) : Prop :=
  match i.gen with
  | .fill => 0 ≤ size ∧ size ≤ 100000
  | .num nm add => (i.size = 1 ∨ i.size = 2 ∨ i.size = 4) ∧ nm.length ≤ maxLen ∧ -1000000000000 ≤ add ∧ add ≤ 1000000000000
  | .plain _ _ _ _ => True
  | .lead _ _ _ _ q => size ≠ 6 ∧ GoalOk x w q

theorem goal_bd (x : SU) (w : World) (its : List It) (q : Goal) (p : Int) (hs : S0 x w) (hok : GoalOk x w q) (hp : goalU ⟨x.labs, its, x.firsts⟩ x.ps q = .ok p) : -100000000000 ≤ p ∧ p ≤ 100001000000 := by
  cases q with
  | val nm add =>
    obtain ⟨_, o2, o3⟩ := hok
    unfold goalU placeU at hp
    simp only at hp
    split at hp
    · exact absurd hp (by simp)
    · split at hp
      · exact absurd hp (by simp)
      · next k hk =>
        injection hp with hp
        have := hs.bd k
        omega
  | slot g i =>
    unfold goalU at hp
    simp only at hp
    injection hp with hp
    have := hs.bd (x.firsts g + i)
    omega

/-- The bytes of any item of a unit. -/
theorem bytes_any (x : SU) (w : World) (its : List It) (i : It) (fa by' : Value) (p size : Int) (rs rs' : List Re) (b : List UInt8) (hg : GenR w x.gu i fa by') (hi : ItOk x w size i) (h0 : 0 ≤ p) (h1 : p ≤ 1000000) (hr : rs.length ≤ 100000) (hok : bytesU ⟨x.labs, its, x.firsts⟩ x.ps p size rs i = .ok (b, rs')) :
    ∃ f caps, by' = .func (.func f) #[] caps ∧ (∀ args w, (callFunc f args).run Tryz.prog w = .ok (.enter f args) w) ∧ ∀ W rv, WS x w W rv rs → Calls Tryz.prog f (#[.int .i64 p, .int .i64 size] ++ caps) W fun r W' => ∃ ca cl cc rv', r = .returned (.tuple #[.slice ca cl cc, .int .i64 0]) ∧ OBytes W' (.slice ca cl cc) b ∧ WS x w W' rv' rs' ∧ Ch x.gu rv.ownBlock W W' := by
  unfold GenR at hg
  unfold ItOk at hi
  unfold bytesU at hok
  cases hx : i.gen with
  | fill =>
    rw [hx] at hg hi hok
    simp only at hg hi hok
    obtain ⟨_, rfl⟩ := hg
    injection hok with hok
    obtain ⟨rfl, rfl⟩ := Prod.mk.inj hok
    obtain ⟨n, rfl⟩ := Int.eq_ofNat_of_zero_le hi.1
    refine ⟨_, _, rfl, ent_fill, fun W rv hW => ?_⟩
    refine (noughts1_any p n W (by omega)).mono ?_
    rintro r W' ⟨rfl, rfl⟩
    exact ⟨_, _, _, rv, rfl, by simpa using zeros_made W n _ rfl (by omega), hW.go (oalloc _ _), Ch.of (oalloc _ _)⟩
  | num nm add =>
    rw [hx] at hg hi hok
    simp only at hg hi hok
    obtain ⟨_, gb, gs, gv, rfl, k1, k2, k3⟩ := hg
    obtain ⟨s1, s2, s3, s4⟩ := hi
    obtain ⟨sz, hsz⟩ : ∃ sz : Nat, i.size = sz := ⟨i.size.toNat, by omega⟩
    rw [hsz] at k2 s1 hok
    have hkeep : ∀ {W : World} {rv : Value}, WS x w W rv rs → W.heap[gb]? = _ ∧ W.heap[gs]? = _ ∧ W.heap[gv]? = _ := fun {W rv} hW => by
      have key : ∀ {q : Nat} {c : Array Value} {t : TypeId}, w.heap[q]? = some (.cells c t (0, 0)) → t ≠ 141 → W.heap[q]? = some (.cells c t (0, 0)) := fun {q c t} hq ht => hW.keep hq (by
        rintro rfl
        obtain ⟨c', hu⟩ := hW.ub
        have := hq.symm.trans hu
        injection this with this
        injection this with _ e2
        exact ht e2)
      exact ⟨key k1 (by decide), key k2 (by decide), key k3 (by decide)⟩
    refine ⟨_, _, rfl, ent_num, fun W rv hW => ?_⟩
    obtain ⟨j1, j2, j3⟩ := hkeep hW
    by_cases hn : nm = []
    · subst hn
      simp only [if_true] at hok
      injection hok with hok
      obtain ⟨rfl, rfl⟩ := Prod.mk.inj hok
      refine (number1_any p size gb gs gv sz add W (blk_cell j2 rfl) (blk_cell j3 rfl) (blk_cell j3 rfl) (by omega) (blk_lt j2) (blk_lt j3)).mono ?_
      rintro r W' ⟨⟨g, rfl, _, hg2, hc⟩, hb⟩
      exact ⟨_, _, _, rv, rfl, putB (by omega) hg2 hc, hW.go hb, Ch.of hb⟩
    · rw [if_neg hn] at hok
      have hrr : b = List.replicate sz 0 ∧ rs' = rs ++ [⟨p, sz, (reU x.labs x.ps nm add).1, (reU x.labs x.ps nm add).2⟩] := by
        unfold placeU at hok
        unfold reU
        rw [if_neg hn] at hok
        cases hl : labelAt nm x.labs with
        | none =>
          rw [hl] at hok
          simp only at hok
          injection hok with hok
          obtain ⟨rfl, rfl⟩ := Prod.mk.inj hok
          exact ⟨by simp, rfl⟩
        | some k =>
          rw [hl] at hok
          simp only at hok
          injection hok with hok
          obtain ⟨rfl, rfl⟩ := Prod.mk.inj hok
          exact ⟨by simp, rfl⟩
      obtain ⟨rfl, rfl⟩ := hrr
      refine (number1_name x w W rv rs hW p size gb gs gv sz nm add j1 j2 j3 hn s2 s3 s4 (by omega) hr).mono ?_
      rintro r W' ⟨g, rv', rfl, ho, hW', hc⟩
      exact ⟨_, _, _, rv', rfl, ho, hW', hc⟩
  | plain op n m imm =>
    rw [hx] at hg hi hok
    simp only at hg hi hok
    obtain ⟨_, gi, rfl, k1⟩ := hg
    refine ⟨_, _, rfl, ent_plain, fun W rv hW => ?_⟩
    cases he : encU op n m imm with
    | error e => rw [he] at hok; exact absurd hok (by simp [Except.map])
    | ok b' =>
      rw [he] at hok
      simp only [Except.map] at hok
      injection hok with hok
      obtain ⟨rfl, rfl⟩ := Prod.mk.inj hok
      have j1 : W.heap[gi]? = some (.cells (In.mk op n m imm).C 71 (0, 0)) := hW.keep k1 (by
        rintro rfl
        obtain ⟨c', hu⟩ := hW.ub
        have := k1.symm.trans hu
        injection this with this
        injection this with _ e2
        exact absurd e2 (by decide))
      refine (plain1_any ⟨op, n, m, imm⟩ gi p size b' W hW.s0.laid j1 he).mono ?_
      rintro r W' ⟨⟨ca, cl, cc, rfl, ho⟩, hb⟩
      exact ⟨ca, cl, cc, rv, rfl, ho, hW.go hb, Ch.of hb⟩
  | lead op n m imm q =>
    rw [hx] at hg hi hok
    simp only at hg hi hok
    obtain ⟨gt, gi, tv, _, rfl, k1, k2, k3⟩ := hg
    obtain ⟨s1, s2⟩ := hi
    refine ⟨_, _, rfl, ent_lead, fun W rv hW => ?_⟩
    have key : ∀ {q : Nat} {c : Array Value} {t : TypeId}, w.heap[q]? = some (.cells c t (0, 0)) → t ≠ 141 → W.heap[q]? = some (.cells c t (0, 0)) := fun {q c t} hq ht => hW.keep hq (by
      rintro rfl
      obtain ⟨c', hu⟩ := hW.ub
      have := hq.symm.trans hu
      injection this with this
      injection this with _ e2
      exact ht e2)
    cases hq : goalU ⟨x.labs, its, x.firsts⟩ x.ps q with
    | error e => rw [hq] at hok; exact absurd hok (by simp)
    | ok pl =>
      rw [hq] at hok
      simp only [if_neg s1] at hok
      cases hd : ledU op p pl with
      | error e => rw [hd] at hok; exact absurd hok (by simp)
      | ok d =>
        rw [hd] at hok
        simp only at hok
        cases he : encU op n m d with
        | error e => rw [he] at hok; exact absurd hok (by simp [Except.map])
        | ok b' =>
          rw [he] at hok
          simp only [Except.map] at hok
          injection hok with hok
          obtain ⟨rfl, rfl⟩ := Prod.mk.inj hok
          have hbd := goal_bd x w its q pl hW.st s2 hq
          have s2' : GoalOk x W q := by
            cases q with
            | val nm add => exact s2
            | slot g i =>
              obtain ⟨o1, vv, mv, o2⟩ := s2
              exact ⟨o1, vv, mv, key o2 (by decide)⟩
          have hG : GoalR W x.gu tv q := k3.stays fun {q c t} a ht => key a (by rintro rfl; exact absurd ht (by decide))
          have hT : Tells W tv pl := goal_any x rv tv q its pl W hW.s0 hW.box hG s2' hq
          refine (lead1_any gt gi ⟨op, n, m, imm⟩ tv p size pl d b' W hW.s0.laid (key k1 (by decide)) (key k2 (by decide)) hT h0 h1 (by omega) (by omega) s1 hd he).mono ?_
          rintro r W' ⟨⟨ca, cl, cc, rfl, ho⟩, hb⟩
          exact ⟨ca, cl, cc, rv, rfl, ho, hW.go hb, Ch.of hb⟩

end Go.Proofs.YtgjmbjahgcndnaaGreatDoor

namespace Go.Proofs.YtgjmbjahgcndnaaGreatDoor
open Go.RowKit

/-- A goal that stands in a unit: its pool is laid. -/
def SlotOk (W : World) (firsts : Nat → Nat) (n : Nat) : Goal → Prop
  | .val nm add => nm.length ≤ maxLen ∧ -100000000000 ≤ add ∧ add ≤ 100000000000
  | .slot g i => firsts g + i ≤ n ∧ ∃ vv mv, W.heap[g]? = some (.cells #[.int .i64 (firsts g), vv, mv] 184 (0, 0))
/-- What is asked of an item. -/
def EndOk (W : World) (firsts : Nat → Nat) (n : Nat) (i : It) : Prop :=
  NoFar i ∧ Laid1 i ∧ (1 ≤ i.align ∧ i.align ≤ 16) ∧ i.size ≤ 4 ∧
  match i.gen with
  | .fill => True
  | .num nm add => (i.size = 1 ∨ i.size = 2 ∨ i.size = 4) ∧ i.upTo = 1 ∧ nm.length ≤ maxLen ∧ -100000000000 ≤ add ∧ add ≤ 100000000000
  | .plain _ _ _ _ => True
  | .lead _ _ _ _ q => i.size = 2 ∧ i.upTo = 1 ∧ SlotOk W firsts n q

/-- A unit whose lines are read and whose pools are laid. -/
structure Ended (w W : World) (gu mb : Nat) (labs : List (List UInt8 × Nat)) (firsts : Nat → Nat) (its : List It) (code : List UInt8) (rs : List Re) : Prop where
  bx : Bx w W
  gge : w.heap.size + 2 ≤ gu
  ur : ∃ ln nv pp, UR W (gu + 1) gu (.slice none 0 0) ln nv (.map (some mb)) pp (.slice none 0 0) (.slice none 0 0) its ∧ W.ownsRow (gu + 1) 9 1 nv labs.length (nameC labs)
  lb : LbR W mb labs
  laid : Isa.Laid W
  hi : max 1 4 < gu
  n : its.length ≤ 1000
  ok : ∀ i, i ∈ its → EndOk W firsts its.length i
  last : (tellU 0 its).getD its.length 0 ≤ 8000
  wr : writeU ⟨labs, its, firsts⟩ (tellU 0 its) 0 [] [] its = .ok (code, rs)
  cl : code.length ≤ 100000 ∧ rs.length ≤ 100000
  lbk : ∀ nm k, labelAt nm labs = some k → k ≤ its.length
  lbs : ∀ j (h : j < labs.length), labelAt labs[j].1 labs = some labs[j].2 ∧ labs[j].1.length ≤ maxLen
  ll : labs.length ≤ 100000

/-- Laid. -/
def Told (w W W' : World) (gu mb : Nat) (labs : List (List UInt8 × Nat)) (firsts : Nat → Nat) (its : List It) (code : List UInt8) (rs : List Re) : Prop :=
  Ended w W gu mb labs firsts its code rs ∧ Fr gu W.heap.size W W' ∧ ∃ gp ln nv pp, W.heap.size ≤ gp ∧ UR W' (gu + 1) gu (.slice none 0 0) ln nv (.map (some mb)) pp (.slice (some ⟨gp, 0, none⟩) (its.length + 1) (its.length + 1)) (.slice none 0 0) its ∧ W.ownsRow (gu + 1) 9 1 nv labs.length (nameC labs) ∧ PlR W' gp its.length (its.length + 1) (tellU 0 its)

theorem lay_end {w W : World} {gu mb : Nat} {labs : List (List UInt8 × Nat)} {firsts : Nat → Nat} {its : List It} {code : List UInt8} {rs : List Re} (h : Ended w W gu mb labs firsts its code rs) :
    Calls Tryz.prog 73 #[.pointer (some ⟨gu, 0, none⟩)] W fun r W' => r = .returned (.int .i64 0) ∧ Told w W W' gu mb labs firsts its code rs := by
  obtain ⟨ln, nv, pp, hu, hnv⟩ := h.ur
  have hn := h.n
  refine (lay_any gu (gu + 1) _ nv _ pp _ _ ⟨_, _, _, rfl⟩ ln its W hu (by omega) (fun x hx => (h.ok x hx).2.1) (fun pv w' hw => lengthen_none gu (gu + 1) _ nv _ pp pv _ ln its w' hw (by omega) (fun x hx => (h.ok x hx).1)) h.last).mono ?_
  rintro r W' ⟨rfl, ⟨gp, hgp, h1, h2⟩, h3⟩
  exact ⟨rfl, h, h3, gp, ln, nv, pp, hgp, h1, hnv, h2⟩

theorem write_end {w W W' : World} {gu mb : Nat} {labs : List (List UInt8 × Nat)} {firsts : Nat → Nat} {its : List It} {code : List UInt8} {rs : List Re} (h : Told w W W' gu mb labs firsts its code rs) :
    Calls Tryz.prog 74 #[.pointer (some ⟨gu, 0, none⟩)] W' fun r w' => ∃ ca cl cc sa sl sc qa ql qc, r = .returned (.tuple #[.agg #[.slice ca cl cc, .slice sa sl sc, .slice qa ql qc], .agg #[.int .i64 0, .int .i64 0]]) ∧ ObjAt w' (.slice ca cl cc) (.slice sa sl sc) (.slice qa ql qc) ⟨code, symsU ⟨labs, its, firsts⟩ (tellU 0 its), rs⟩ ∧ Bx w w' := by
  obtain ⟨he, hf, gp, ln, nv, pp, hgp, hu, hnv, hpl⟩ := h
  obtain ⟨iv, l, u1, u2, u3, u4⟩ := id hu.its
  obtain ⟨ln0, nv0, pp0, hu0, _⟩ := he.ur
  obtain ⟨iv0, l0, b1, _⟩ := id hu0.its
  have hgW := blk_lt b1
  have hge := he.gge
  have kp : ∀ {q : Nat} {o : Obj}, W.heap[q]? = some o → q ≠ gu → W'.heap[q]? = some o := fun {q o} hq hne => (hf.block q (blk_lt hq) hne).trans hq
  have hlb : LbR W' mb labs := by
    obtain ⟨D, ⟨es, ck, hb, F⟩, hd⟩ := he.lb
    exact ⟨D, ⟨es, ck, kp hb (by rintro rfl; rw [b1] at hb; cases hb), F⟩, hd⟩
  have hnv' : W'.ownsRow (gu + 1) 9 1 nv labs.length (nameC labs) := by
    refine ⟨hnv.1, ?_⟩
    rcases hnv.2 with h5 | ⟨g, cap, cur, h5, h6, h7, h8⟩
    · exact .inl h5
    · exact .inr ⟨g, cap, cur, h5, h6, kp h7 (by omega), h8⟩
  have hbd : ∀ k, 0 ≤ (tellU 0 its).getD k 0 ∧ (tellU 0 its).getD k 0 ≤ 1000000 := fun k => by
    by_cases hk : k ≤ its.length
    · have := tell_bounds its 0 k (Int.le_refl _) (fun x hx => (he.ok x hx).2.1) hk
      have := he.n
      omega
    · have : (tellU 0 its).getD k 0 = 0 := by
        rw [List.getD_eq_getElem?_getD, List.getElem?_eq_none (by rw [tell_len]; omega)]
        rfl
      omega
  let x : SU := ⟨gu, gp, mb, its.length, .slice none 0 0, nv, iv, pp, ln, labs, tellU 0 its, firsts⟩
  have hs : S0 x W' := ⟨hpl, hlb, he.laid.below (hf.lowd (Nat.le_of_lt hgW)) he.hi, he.hi, by have := he.n; show its.length ≤ 100000; omega, hbd, he.lbk⟩
  have hll : l.length = its.length := by rw [← u3]; simp
  refine (write_any x (gu + 1) W' its l code rs hs u1 u2 u3 rfl (fun p hp => (u4 p hp).shape.1) (fun i hi => (he.ok i hi).2.2.1) ?_ he.wr he.cl.1 he.cl.2 hnv' he.lbs he.ll).mono ?_
  · intro k hk rs1 rs2 b hrs hb
    have hki : k < its.length := by omega
    have hlk : l[k].1 = its[k] := by subst u3; simp
    have hok := he.ok its[k] (List.getElem_mem _)
    have hstep := tell_step its 0 k hki
    have hb0 := hbd k
    have hsz : (tellU 0 its).getD (k + 1) 0 - (tellU 0 its).getD k 0 = its[k].size + (its[k].upTo - ((tellU 0 its).getD k 0).tmod its[k].upTo).tmod its[k].upTo := by omega
    obtain ⟨g1, g2, g3, g4⟩ := hok.2.1
    have hr2 : 0 ≤ (its[k].upTo - ((tellU 0 its).getD k 0).tmod its[k].upTo).tmod its[k].upTo ∧ (its[k].upTo - ((tellU 0 its).getD k 0).tmod its[k].upTo).tmod its[k].upTo < its[k].upTo := by
      have ha : 0 ≤ ((tellU 0 its).getD k 0).tmod its[k].upTo ∧ ((tellU 0 its).getD k 0).tmod its[k].upTo < its[k].upTo := ⟨Int.tmod_nonneg _ hb0.1, Int.tmod_lt_of_pos _ (by omega)⟩
      exact ⟨Int.tmod_nonneg _ (by omega), Int.tmod_lt_of_pos _ (by omega)⟩
    refine bytes_any x W' its l[k].1 l[k].2.1 l[k].2.2 _ _ rs1 rs2 b (u4 _ (List.getElem_mem _)) ?_ hb0.1 hb0.2 hrs hb
    rw [hlk]
    unfold ItOk
    have hlast := hok.2.2.2.2
    cases hg : its[k].gen with
    | fill =>
      show 0 ≤ (tellU 0 its).getD (k + 1) 0 - (tellU 0 its).getD k 0 ∧ (tellU 0 its).getD (k + 1) 0 - (tellU 0 its).getD k 0 ≤ 100000
      rw [hsz]
      constructor <;> omega
    | num nm add =>
      rw [hg] at hlast
      simp only at hlast ⊢
      exact ⟨hlast.1, hlast.2.2.1, by omega, by omega⟩
    | plain op n m imm => trivial
    | lead op n m imm q =>
      rw [hg] at hlast
      simp only at hlast ⊢
      obtain ⟨e1, e2, e3⟩ := hlast
      refine ⟨?_, ?_⟩
      · rw [e2] at hr2
        show (tellU 0 its).getD (k + 1) 0 - (tellU 0 its).getD k 0 ≠ 6
        rw [hsz, e1, e2]
        omega
      · cases q with
        | val nm add => exact e3
        | slot g i =>
          obtain ⟨o1, vv, mv, o2⟩ := e3
          exact ⟨o1, vv, mv, kp o2 (by rintro rfl; rw [b1] at o2; injection o2 with o2; injection o2 with _ e5; exact absurd e5 (by decide))⟩
  · rintro r w' ⟨ca, cl, cc, sa, sl, sc, qa, ql, qc, rfl, h1, h2, h3, h4⟩
    have hx0 := kp he.bx.x0 (by omega)
    have hx1 := kp he.bx.x1 (by omega)
    have h4' : Fr gu W'.heap.size W' w' := h4
    have hB' : Below w.heap.size w W' := he.bx.bel.trans ((hf.lowd (Nat.le_of_lt hgW)).mono (by omega))
    refine ⟨ca, cl, cc, sa, sl, sc, qa, ql, qc, rfl, ⟨h1, h2, h3⟩, ⟨hB'.trans ((h4'.lowd (Nat.le_of_lt (blk_lt u1))).mono (by omega)), ?_, ?_⟩⟩
    · rw [h4'.block _ (blk_lt hx0) (by omega)]; exact hx0
    · rw [h4'.block _ (blk_lt hx1) (by omega)]; exact hx1

end Go.Proofs.YtgjmbjahgcndnaaGreatDoor

namespace Go.Proofs.YtgjmbjahgcndnaaGreatDoor
open Go.RowKit Go.Maps Go.MapKept

def findFrom' (name : List UInt8) (shape : Int) : Nat → Nat → Int
  | 0, _ => 0
  | fuel + 1, k => if Isa.knownB k = true ∧ (Isa.opName k).data.toList = name ∧ Isa.opShape k = shape then (k : Int) else findFrom' name shape fuel (k + 1)
theorem findFrom_eq (name : ByteArray) (shape : Int) : ∀ f k, Isa.findFrom name shape f k = findFrom' name.data.toList shape f k
  | 0, k => rfl
  | f + 1, k => by rw [Isa.findFrom, findFrom', findFrom_eq name shape f (k + 1), ByteArray.toList_eq, ByteArray.toList_eq]
def findU' (name form : List UInt8) : Nat → Nat → Int
  | 0, _ => 0
  | f + 1, k => if (formKd k).data.toList == form then (if findFrom' name k 28 0 = 0 then findU' name form f (k + 1) else findFrom' name k 28 0) else findU' name form f (k + 1)
theorem findU_eq (name form : ByteArray) : ∀ f k, findU name form f k = findU' name.data.toList form.data.toList f k
  | 0, k => rfl
  | f + 1, k => by rw [findU, findU', findU_eq name form f (k + 1), ByteArray.toList_eq, ByteArray.toList_eq, findFrom_eq]

theorem find_nop : findU ⟨#[110, 111, 112]⟩ ⟨#[]⟩ 12 0 = 1 := by
  rw [findU_eq]
  kernel_rfl

theorem lbr_nil {W : World} {mb : Nat} (h : W.heap[mb]? = some (.map #[] 0)) : LbR W mb [] := by
  obtain ⟨es, ck, hb, F, hs, hD⟩ := World.ownsMap_made (H := Unit) W Tryz.prog 9 (plainElem Tryz.prog 3)
  have e1 := (heap_alloc_new W (.map #[] 0)).symm.trans hb
  have e2 : es = #[] := by injection e1 with e1; injection e1 with e2 e3; exact e2.symm
  have e3 : ck = 0 := by injection e1 with e1; injection e1 with e2 e3; exact e3.symm
  rw [e2, e3] at F
  rw [e2] at hs hD
  exact ⟨.map [], ⟨#[], 0, h, F, hs, hD⟩, LM.nil⟩

end Go.Proofs.YtgjmbjahgcndnaaGreatDoor

namespace Go.Proofs.YtgjmbjahgcndnaaGreatDoor
open Go.RowKit Go.Maps Go.MapKept

def wA : ByteArray := ⟨#[97]⟩
/-- The unit while its lines are read. -/
structure AlR (w W : World) (gu mb gp mi : Nat) (ln : Int) (labs : List (List UInt8 × Nat)) (its : List It) (asked : Bool) : Prop where
  bx : Bx w W
  ur : ∃ nv, UR W (gu + 1) gu (.slice none 0 0) ln nv (.map (some mb)) (.pointer (some ⟨gp, 0, none⟩)) (.slice none 0 0) (.slice none 0 0) its ∧ W.ownsRow (gu + 1) 9 1 nv labs.length (nameC labs)
  lb : LbR W mb labs
  po : if asked then ∃ va vc b0, W.heap[gp]? = some (.cells #[.int .i64 0, .slice va 1 vc, .map (some mi)] 184 (0, 0)) ∧ W.ownsRow b0 201 2 (.slice va 1 vc) 1 [.string ⟨([97] : List UInt8).toArray⟩, .int .i64 0] else W.heap[gp]? = some (.cells #[.int .i64 0, .slice none 0 0, .map (some mi)] 184 (0, 0)) ∧ W.heap[mi]? = some (.map #[] 0)
end Go.Proofs.YtgjmbjahgcndnaaGreatDoor

namespace Go.Proofs.YtgjmbjahgcndnaaGreatDoor
open Go.RowKit Go.Maps Go.MapKept

/-- What lies in memory from the beginning. -/
structure AllLaid (w : World) : Prop where
  isa : Isa.Laid w
  frm : FLaid w
  ex : Xp.KLaid w
  gl : Sc.Glob w

end Go.Proofs.YtgjmbjahgcndnaaGreatDoor

namespace Go.Proofs.YtgjmbjahgcndnaaGreatDoor
open Go.RowKit Go.Maps Go.MapKept

/-- A slice of whole numbers. -/
def IRd (w : World) (a : Option Addr) (l : List Int) : Prop := (∀ n, n ∈ l → -9223372036854775808 ≤ n ∧ n ≤ 9223372036854775807) ∧ l.length ≤ 140737488351232 ∧ (0 < l.length → ∃ b o, a = some ⟨b, o, none⟩ ∧ b < w.heap.size ∧ ∀ i (h : i < l.length), w.cell? ⟨b, o + i, none⟩ = some (.int .i64 l[i]))

theorem AllLaid.next {w w' : World} (h : AllLaid w) (hb : Below w.heap.size w w') : AllLaid w' := ⟨h.isa.below hb h.isa.sz, h.frm.below hb h.frm.sz, KL.below h.ex hb, h.gl.below hb h.gl.sz⟩

theorem itoa_of (n : Int) (h0 : -9223372036854775808 ≤ n) (h1 : n ≤ 9223372036854775807) (w : World) (hG : Sc.Glob w) :
    Calls Tryz.prog 5 #[.int .i64 n] w fun e w' => e = .returned (.string ⟨(Lib.itoa n).toArray⟩) ∧ Below w.heap.size w w' := by
  refine (Tryz.strconv_Itoa n h0 h1 w hG.tab).mono ?_
  rintro e w' ⟨rfl, k, os, rfl⟩
  exact ⟨rfl, Lib.below_grow _ w (Nat.le_refl _) k os⟩

end Go.Proofs.YtgjmbjahgcndnaaGreatDoor

namespace Go.Proofs.YtgjmbjahgcndnaaGreatDoor
open Go.RowKit

end Go.Proofs.YtgjmbjahgcndnaaGreatDoor

namespace Go.Proofs.YtgjmbjahgcndnaaGreatDoor
open Go.RowKit Go.Maps Go.MapKept

end Go.Proofs.YtgjmbjahgcndnaaGreatDoor

namespace Go.Proofs.YtgjmbjahgcndnaaGreatDoor
open Go.RowKit Go.Maps Go.MapKept

def tkComma : Tk := ⟨3, 0, ⟨#[44]⟩⟩
theorem isc_comma : isComma tkComma = true := by simp [isComma, tkComma, ByteArray.toList_eq]
theorem UR.same {W : World} {gu : Nat} {B : Nat} {e : Value} {ln : Int} {nv nv' lm pp pv rv : Value} {its : List It} (hn : UR W B gu e ln nv' lm pp pv rv its) (hu : UR W B gu e ln nv lm pp pv rv its) : nv' = nv := by
  obtain ⟨i1, l1, a1, _⟩ := hn.its
  obtain ⟨i2, l2, a2, _⟩ := hu.its
  have e := a1.symm.trans a2
  injection e with e
  injection e with e _
  have e2 := congrArg (fun a : Array Value => a[2]?) e
  simpa [uC] using e2

section
variable (w W : World) (gu mb gp mi : Nat) (v : Value) (ln : Int) (labs : List (List UInt8 × Nat)) (its : List It)

theorem find_bf : findU ⟨#[98, 102]⟩ ⟨#[112]⟩ 12 0 = 18 := by
  rw [findU_eq]
  kernel_rfl
end

end Go.Proofs.YtgjmbjahgcndnaaGreatDoor

namespace Go.Proofs.YtgjmbjahgcndnaaGreatDoor
open Go.RowKit Go.Maps Go.MapKept

inductive OpK where
  | reg (t : List UInt8)
  | num (n : Int)
  | neg (n : Int)
  | ind (t : List UInt8)
  | pool (nm : List UInt8)
  | name (nm : List UInt8)
def wd (t : List UInt8) : Tk := ⟨1, 0, ⟨t.toArray⟩⟩
def sg (c : UInt8) : Tk := ⟨3, 0, ⟨#[c]⟩⟩
def OpK.toks : OpK → List Tk
  | .reg t => [wd t]
  | .num n => [sg 35, tkNum n]
  | .neg n => [sg 35, sg 45, tkNum n]
  | .ind t => [sg 64, wd t]
  | .pool nm => [sg 61, wd nm]
  | .name nm => [wd nm]
def OpK.opd : OpK → Opd
  | .reg t => ⟨⟨#[114]⟩, regU 1 t, ⟨#[]⟩, 0⟩
  | .num n => ⟨⟨#[35]⟩, 0, ⟨#[]⟩, wrap32 n⟩
  | .neg n => ⟨⟨#[35]⟩, 0, ⟨#[]⟩, wrap32 (-wrap32 n)⟩
  | .ind t => ⟨⟨#[64]⟩, regU 1 t, ⟨#[]⟩, 0⟩
  | .pool nm => ⟨⟨#[61]⟩, 0, ⟨nm.toArray⟩, 0⟩
  | .name nm => ⟨⟨#[112]⟩, 0, ⟨nm.toArray⟩, 0⟩
def OpK.ok : OpK → Prop
  | .reg t => 0 ≤ regU 1 t
  | .num _ => True
  | .neg _ => True
  | .ind t => 0 ≤ regU 1 t
  | .pool nm => Xp.nameR nm = true
  | .name nm => Xp.nameR nm = true ∧ regU 1 nm < 0

theorem opk_any (k : OpK) (hk : k.ok) (gu : Nat) (v : Value) (w : World) (hL : Xp.KLaid w) (hG : Sc.Glob w) (h : PReads w v k.toks) (c0 : w.cell? ⟨gu, 0, none⟩ = some (.slice none 0 0)) :
    Calls Tryz.prog 131 #[.pointer (some ⟨gu, 0, none⟩), v] w fun r w' => r = .returned (.tuple #[k.opd.V, .int .i64 0]) ∧ Below w.heap.size w w' := by
  cases k with
  | reg t => have := operand_reg gu v (wd t) w hG h rfl (by simpa [wd, OpK.ok] using hk); simpa [OpK.opd, Opd.V, wd] using this
  | num n => exact operand_num gu v 0 (tkNum n) ⟨#[]⟩ (wrap32 n) (.inl ⟨rfl, rfl, rfl⟩) w hL h c0
  | neg n => exact operand_neg gu v 0 n ⟨#[]⟩ w hL h c0
  | ind t => have := operand_at gu v 0 (wd t) w hG h rfl (by simpa [wd, OpK.ok] using hk); simpa [OpK.opd, Opd.V, wd] using this
  | pool nm => exact operand_pool gu v 0 (wd nm) ⟨nm.toArray⟩ 0 (.inr ⟨rfl, rfl, rfl, by simpa [wd, OpK.ok] using hk⟩) w hL h c0
  | name nm => exact operand_atom gu v (wd nm) ⟨nm.toArray⟩ 0 (.inr ⟨rfl, rfl, rfl, by simpa [wd] using hk.1⟩) w hL hG h c0 (by simpa [wd] using hk.2)

/-- Operands with commas between. -/
def joinK : List OpK → List Tk
  | [] => []
  | [a] => a.toks
  | a :: b :: r => a.toks ++ (tkComma :: joinK (b :: r))
theorem split_app : ∀ (a cur r : List Tk), (∀ x, x ∈ a → isComma x = false) → splitT cur (a ++ r) = splitT (cur ++ a) r
  | [], cur, r, _ => by simp
  | x :: a, cur, r, h => by
    rw [List.cons_append, splitT, if_neg (by rw [h x (by simp)]; decide), split_app a _ r fun y hy => h y (by simp [hy]), List.append_assoc]
    rfl
theorem sg_comma (c : UInt8) (h : c ≠ 44) : isComma (sg c) = false := by
  simp [isComma, sg, ByteArray.toList_eq, h]
theorem toks_comma (k : OpK) : ∀ x, x ∈ k.toks → isComma x = false := by
  intro x hx
  cases k with
  | reg t => simp only [OpK.toks, List.mem_singleton] at hx; subst hx; rfl
  | num n =>
    simp only [OpK.toks, List.mem_cons, List.not_mem_nil, or_false] at hx
    rcases hx with rfl | rfl
    · exact sg_comma 35 (by decide)
    · rfl
  | neg n =>
    simp only [OpK.toks, List.mem_cons, List.not_mem_nil, or_false] at hx
    rcases hx with rfl | rfl | rfl
    · exact sg_comma 35 (by decide)
    · exact sg_comma 45 (by decide)
    · rfl
  | ind t =>
    simp only [OpK.toks, List.mem_cons, List.not_mem_nil, or_false] at hx
    rcases hx with rfl | rfl
    · exact sg_comma 64 (by decide)
    · rfl
  | pool t =>
    simp only [OpK.toks, List.mem_cons, List.not_mem_nil, or_false] at hx
    rcases hx with rfl | rfl
    · exact sg_comma 61 (by decide)
    · rfl
  | name t => simp only [OpK.toks, List.mem_singleton] at hx; subst hx; rfl
theorem join_split : ∀ l : List OpK, l ≠ [] → splitT [] (joinK l) = l.map OpK.toks
  | [], h => absurd rfl h
  | [a], _ => by
    have := split_app a.toks [] [] (toks_comma a)
    rw [List.append_nil] at this
    rw [joinK, this]
    simp [splitT]
  | a :: b :: r, _ => by
    rw [joinK, split_app _ _ _ (toks_comma a), splitT, if_pos isc_comma, join_split (b :: r) (by simp), List.nil_append]
    rfl
theorem toks_ne (k : OpK) : k.toks ≠ [] := by cases k <;> simp [OpK.toks]
theorem toks_len (k : OpK) : k.toks.length ≤ 3 := by cases k <;> simp [OpK.toks]
theorem join_ne (a : OpK) (r : List OpK) : joinK (a :: r) ≠ [] := by
  cases r with
  | nil => exact toks_ne a
  | cons b r => simp [joinK]
theorem join_pieces (l : List OpK) : piecesT (joinK l) = l.map OpK.toks := by
  cases l with
  | nil => simp [piecesT, joinK]
  | cons a r => rw [piecesT, if_neg (join_ne a r), join_split _ (by simp)]
theorem join_len : ∀ l : List OpK, (joinK l).length ≤ 4 * l.length
  | [] => by simp [joinK]
  | [a] => by have := toks_len a; simp [joinK]; omega
  | a :: b :: r => by
    have := join_len (b :: r)
    have := toks_len a
    simp only [joinK, List.length_append, List.length_cons] at *
    omega

theorem ops_any (l : List OpK) (hl : ∀ k, k ∈ l → k.ok) (hn : l.length ≤ 100) (gu : Nat) (v : Value) (w : World) (hL : Xp.KLaid w) (hG : Sc.Glob w) (h : PReads w v (joinK l)) (c0 : w.cell? ⟨gu, 0, none⟩ = some (.slice none 0 0)) :
    Calls Tryz.prog 92 #[.pointer (some ⟨gu, 0, none⟩), v] w fun r w' => (∃ oa oc, r = .returned (.tuple #[.slice oa (l.map OpK.opd).length oc, .int .i64 0]) ∧ OpsR w' oa (l.map OpK.opd)) ∧ Below w.heap.size w w' := by
  have hpc := join_pieces l
  refine (operands_any gu v (joinK l) (l.map OpK.opd) w h (by have := join_len l; omega) (by rw [hpc]; simp) ?_).mono ?_
  · intro i hi u X hb hu
    have hi' : i < l.length := by simpa using hi
    have hu2 : PReads X u l[i].toks := by simpa [hpc] using hu
    have := opk_any l[i] (hl _ (List.getElem_mem _)) gu u X (KL.below hL hb) (hG.below hb hG.sz) hu2 (by rw [hb.cell (World.block_lt_of_cell? w _ c0)]; exact c0)
    simpa using this
  · rintro r w' ⟨⟨ov, rfl, hr⟩, hb⟩
    obtain ⟨oa, oc, hov⟩ := row_shape hr
    subst hov
    exact ⟨⟨oa, oc, rfl, OpsR.of_row hr⟩, hb⟩

/-- What an instruction is. -/
structure Ins where
  name : List UInt8
  ops : List OpK
  op : Int
def Ins.toks (i : Ins) : List Tk := wd i.name :: joinK i.ops
def Ins.fill (i : Ins) := (i.ops.map OpK.opd).foldl fillU ⟨i.op, 0, 0, 0⟩
structure Ins.Ok (i : Ins) : Prop where
  name : i.name ∉ dirs
  ops : ∀ k, k ∈ i.ops → k.ok
  n : i.ops.length ≤ 100
  pool : formU (i.ops.map OpK.opd) ≠ [61, 114]
  found : findU ⟨i.name.toArray⟩ ⟨(formU (i.ops.map OpK.opd)).toArray⟩ 12 0 = i.op
  op : i.op ≠ 0
  right : Isa.wrongI i.fill.op i.fill.n i.fill.m i.fill.imm = 0
  lab : labelled i.toks = false
def Ins.it (i : Ins) (ln : Int) : It := match i.ops with
  | .name nm :: _ => leadI ln i.fill.op i.fill.n i.fill.m i.fill.imm (.val nm 0)
  | _ => plainI ln i.fill.op i.fill.n i.fill.m i.fill.imm

theorem kd_one (k : OpK) : k.opd.kd.data.toList.length = 1 := by cases k <;> rfl
theorem kd_nm (k : OpK) : k.opd.kd.toList = kdN → k.opd.nm = ⟨#[]⟩ := by
  cases k <;> simp [OpK.opd, ByteArray.toList_eq, kdN]

section
variable (w : World) (gu mb gp mi : Nat) (ln : Int) (labs : List (List UInt8 × Nat)) (its : List It)

end

end Go.Proofs.YtgjmbjahgcndnaaGreatDoor

namespace Go.Proofs.YtgjmbjahgcndnaaGreatDoor
open Go.RowKit

/-- A line that is read as these tokens. -/
def OkL (l : List UInt8) (ts : List Sc.Tok) : Prop := Sc.lineErr l = 0 ∧ Sc.lineList l = ts ∧ ts ≠ [] ∧ (∀ c, c ∈ l → c ≠ 10) ∧ l.length ≤ 80

def numLn : Nat → List (List Sc.Tok) → List Sc.Ln
  | _, [] => []
  | k, t :: r => ⟨k, t⟩ :: numLn (k + 1) r
theorem lines_of : ∀ (l : List (List UInt8 × List Sc.Tok)) (k : Nat), (∀ a, a ∈ l → OkL a.1 a.2) → Sc.linesR k (l.map (·.1) ++ [[]]) = .ok (numLn k (l.map (·.2)))
  | [], k, _ => rfl
  | a :: r, k, h => by
    have ih := lines_of r (k + 1) fun b hb => h b (by simp [hb])
    obtain ⟨e1, e2, e3, _⟩ := h a (by simp)
    rw [List.map_cons, List.cons_append, Sc.linesR, if_pos e1, ih, e2]
    simp [numLn, e3]
theorem split_of : ∀ l : List (List UInt8 × List Sc.Tok), (∀ a, a ∈ l → OkL a.1 a.2) → Sc.splitNL (l.flatMap fun a => a.1 ++ [10]) = l.map (·.1) ++ [[]]
  | [], _ => rfl
  | a :: r, h => by
    have ih := split_of r fun b hb => h b (by simp [hb])
    have e : (a :: r).flatMap (fun a => a.1 ++ [10]) = a.1 ++ 10 :: r.flatMap (fun a => a.1 ++ [10]) := by simp
    rw [e, Sc.split_one _ _ (h a (by simp)).2.2.2.1, ih]
    rfl
theorem len_of : ∀ l : List (List UInt8 × List Sc.Tok), (∀ a, a ∈ l → OkL a.1 a.2) → (l.flatMap fun a => a.1 ++ [10]).length ≤ 81 * l.length
  | [], _ => by simp
  | a :: r, h => by
    have ih := len_of r fun b hb => h b (by simp [hb])
    have := (h a (by simp)).2.2.2.2
    rw [List.flatMap_cons, List.length_append, List.length_append, List.length_cons]
    simp only [List.length_cons, List.length_nil]
    omega
theorem src_of (l : List (List UInt8 × List Sc.Tok)) (h : ∀ a, a ∈ l → OkL a.1 a.2) (hl : l.length ≤ 14) : Sc.srcLines (l.flatMap fun a => a.1 ++ [10]) = .ok (numLn 1 (l.map (·.2))) := by
  unfold Sc.srcLines
  rw [if_neg (by have := len_of l h; omega), split_of l h]
  exact lines_of l 1 h

def nopL : List UInt8 := [110, 111, 112]
def nopT : List Sc.Tok := [⟨1, 0, [110, 111, 112]⟩]
theorem ok_nop : OkL nopL nopT := ⟨by kernel_rfl, by kernel_rfl, by simp [nopT], by decide, by decide⟩
end Go.Proofs.YtgjmbjahgcndnaaGreatDoor
