import Derived.Test.YtfmljailbebfgaaGreatDoorPut40
import Derived.Test.YtfmljailbebfgaaGreatDoorUdG
set_option maxHeartbeats 8000000
set_option maxRecDepth 100000
namespace Go.Proofs.YtfmljailbebfgaaGreatDoor
open Go.RowKit
theorem qDa (w : World) : Calls Tryz.prog 72 #[] w fun r w' => r = .returned (.pointer (some ⟨w.heap.size + 1, 0, none⟩)) /\ w' = (w.alloc (.map #[] 0)).alloc (.cells #[.int .i64 0, .slice none 0 0, .map (some w.heap.size)] 186) := by
 have hmm : ∀ w, (Instr.makeMap 183 none).run Tryz.prog w = .ok (.map (some w.heap.size)) (w.alloc (.map #[] 0)) := fun w => rfl
 go_enter Tryz.func72, Tryz.ntmps72
 go_wp2_with fail
 go_returns
 exact ⟨rfl, rfl⟩
structure Bx (w W : World) : Prop where
 bel : Below w.heap.size w W
 x0 : W.heap[w.heap.size]? = some (.cells #[.slice none 0 0, .slice none 0 0, .slice none 0 0] 51 (0, 0))
 x1 : W.heap[w.heap.size + 1]? = some (.cells #[.int .i64 0, .int .i64 0] 38 (0, 0))
theorem Bx.go {w W W' : World} (h : Bx w W) (hb : Below W.heap.size W W') : Bx w W' := ⟨h.bel.trans (hb.mono h.bel.size), (hb.block _ (qC h.x0)).trans h.x0, (hb.block _ (qC h.x1)).trans h.x1⟩
structure Begun (w W : World) (gu mb gp mi : Nat) : Prop where
 bx : Bx w W
 ur : UR W (gu + 1) gu (.slice none 0 0) 0 (.slice none 0 0) (.map (some mb)) (.pointer (some ⟨gp, 0, none⟩)) (.slice none 0 0) (.slice none 0 0) []
 mp : W.heap[mb]? = some (.map #[] 0)
 po : W.heap[gp]? = some (.cells #[.int .i64 0, .slice none 0 0, .map (some mi)] 186 (0, 0))
 mq : W.heap[mi]? = some (.map #[] 0)
 ge : w.heap.size + 2 <= gu /\ w.heap.size + 2 <= mb /\ w.heap.size + 2 <= gp /\ w.heap.size + 2 <= mi
 lt : mb < gu /\ gp < gu /\ mi < gu
 ne : mi ≠ mb
def ObjAt (W : World) (c s q : Value) (o : Ob) : Prop := OBytes W c o.code /\ OSyms W s o.syms /\ ORels W q o.rels
structure Makes (w : World) (gu : Nat) (ls : List (Int × List Tk)) (o : Ob) (W1 : World) : Prop where
 ex : ∃ (ST : Nat -> World -> Prop) (E F : World -> Prop), ST 0 W1 /\ (∀ k W, ST k W -> Bx w W /\ ∃ c, W.heap[gu]? = some (.cells c 143 (0, 0)) /\ (∃ z, c[1]? = some (.int .i64 z))) /\
  (∀ k (hk : k < ls.length) W v, ST k W -> PReads w v ls[k].2 -> Calls Tryz.prog 73 #[.pointer (some ⟨gu, 0, none⟩), v] ((W.setCell ⟨gu, 1, none⟩ (.int .i64 ls[k].1)).alloc (.cells #[v, .int .i64 ls[k].1] 147)) fun r w' => r = .returned (.int .i64 0) /\ ST (k + 1) w') /\
  (∀ W, ST ls.length W -> Calls Tryz.prog 74 #[.pointer (some ⟨gu, 0, none⟩)] W fun r w' => r = .returned (.tuple #[]) /\ E w') /\
  (∀ W, E W -> Calls Tryz.prog 75 #[.pointer (some ⟨gu, 0, none⟩)] W fun r w' => r = .returned (.int .i64 0) /\ F w') /\
  (∀ W, F W -> Calls Tryz.prog 76 #[.pointer (some ⟨gu, 0, none⟩)] W fun r w' => ∃ ca cl cc sa sl sc qa ql qc, r = .returned (.tuple #[.agg #[.slice ca cl cc, .slice sa sl sc, .slice qa ql qc], .agg #[.int .i64 0, .int .i64 0]]) /\ ObjAt w' (.slice ca cl cc) (.slice sa sl sc) (.slice qa ql qc) o /\ Bx w w')
theorem qCZ {w : World} {q i b j : Nat} {c : Array Value} {t : TypeId} {v x : Value} (h : w.heap[q]? = some (.cells c t (0, 0))) (hx : w.cell? ⟨b, j, none⟩ = some x) (hc : ∀ k : Nat, c[k]? ≠ some x) : b ≠ q /\ ∀ k, (w.setCell ⟨q, i, none⟩ v).cell? ⟨b, k, none⟩ = w.cell? ⟨b, k, none⟩ := by
 have hne : b ≠ q := by
  rintro rfl
  simp only [World.cell?, h] at hx
  exact hc j (by simpa using hx)
 refine ⟨hne, fun k => ?_⟩
 have hk : (w.setCell ⟨q, i, none⟩ v).heap[b]? = w.heap[b]? := Below.heap_setCell _ _ _ _ hne
 simp only [World.cell?, hk]
theorem OSyms.set {w : World} {q i : Nat} {c : Array Value} {t : TypeId} {v x : Value} {l : List Sy} (ho : OSyms w x l) (h : w.heap[q]? = some (.cells c t (0, 0))) (hc : ∀ (k : Nat) (y : ByteArray), c[k]? ≠ some (Value.string y)) : OSyms (w.setCell ⟨q, i, none⟩ v) x l := by
 obtain ⟨ad, cap, rfl, hm, hl⟩ := ho
 refine ⟨ad, cap, rfl, hm, fun h0 => ?_⟩
 obtain ⟨b, o, rfl, hb, hcell⟩ := hl h0
 obtain ⟨_, hk⟩ := qCZ (i := i) (v := v) h (hcell 0 h0).1 (fun k => hc k _)
 exact ⟨b, o, rfl, by simpa using hb, fun j hj => by rw [hk, hk]; exact hcell j hj⟩
theorem ORels.set {w : World} {q i : Nat} {c : Array Value} {t : TypeId} {v x : Value} {l : List Re} (ho : ORels w x l) (h : w.heap[q]? = some (.cells c t (0, 0))) (hc : ∀ (k : Nat) (y : ByteArray), c[k]? ≠ some (Value.string y)) : ORels (w.setCell ⟨q, i, none⟩ v) x l := by
 obtain ⟨ad, cap, rfl, hm, hl⟩ := ho
 refine ⟨ad, cap, rfl, hm, fun h0 => ?_⟩
 obtain ⟨b, o, rfl, hb, hcell⟩ := hl h0
 obtain ⟨_, hk⟩ := qCZ (i := i) (v := v) h (hcell 0 h0).2.2.1 (fun k => hc k _)
 exact ⟨b, o, rfl, by simpa using hb, fun j hj => by rw [hk, hk, hk, hk]; exact hcell j hj⟩
theorem ObjAt.set {w : World} {q i : Nat} {c : Array Value} {t : TypeId} {v x y z : Value} {o : Ob} (ho : ObjAt w x y z o) (h : w.heap[q]? = some (.cells c t (0, 0))) (hc : ∀ (k : Nat) (y : ByteArray), c[k]? ≠ some (Value.string y)) (hc8 : ∀ (j : Nat) (n : Int), c[j]? ≠ some (Value.int .u8 n)) : ObjAt (w.setCell ⟨q, i, none⟩ v) x y z o :=
 ⟨ho.1.set h hc8, ho.2.1.set h hc, ho.2.2.set h hc⟩
theorem qDf (v : Value) (ls : List (Int × List Tk)) (o : Ob) (w : World) (h : LRd w v ls) (hn : ls.length <= 1000) (hall : ∀ gu mb gp mi W1, Begun w W1 gu mb gp mi -> Makes w gu ls o W1) :
  Calls Tryz.prog 46 #[v, .slice none 0 0] w fun r w' => (∃ ca cl cc sa sl sc qa ql qc, r = .returned (.tuple #[.agg #[.slice ca cl cc, .slice sa sl sc, .slice qa ql qc], .agg #[.int .i64 0, .int .i64 0]]) /\ ObjAt w' (.slice ca cl cc) (.slice sa sl sc) (.slice qa ql qc) o) /\ Below w.heap.size w w' := by
 have HALL := Lib.hid hall
 clear hall
 have hmm : ∀ w, (Instr.makeMap 91 none).run Tryz.prog w = .ok (.map (some w.heap.size)) (w.alloc (.map #[] 0)) := fun w => rfl
 obtain ⟨va, vc, rfl, _⟩ := id h
 have HV := Lib.hid h
 clear h
 go_enter Tryz.func46, Tryz.ntmps46
 go_wp2_with fail
 refine (qDa _).mono ?_
 rintro e w1 ⟨rfl, rfl⟩
 go_wp2_with fail
 obtain ⟨W1, hW1⟩ : ∃ X, X = ((((((w.alloc (.cells #[.slice none 0 0, .slice none 0 0, .slice none 0 0] 51)).alloc (.cells #[.int .i64 0, .int .i64 0] 38)).alloc (.map #[] 0)).alloc (.map #[] 0)).alloc (.cells #[.int .i64 0, .slice none 0 0, .map (some (w.heap.size + 1 + 1 + 1))] 186)).alloc (.cells #[.slice none 0 0, .int .i64 0, .slice none 0 0, .map (some (w.heap.size + 1 + 1)), .slice none 0 0, .pointer (some ⟨w.heap.size + 1 + 1 + 1 + 1, 0, none⟩), .slice none 0 0, .slice none 0 0] 143)) := ⟨_, rfl⟩
 have hz : W1.heap.size = w.heap.size + 1 + 1 + 1 + 1 + 1 + 1 := by rw [hW1]; simp
 have hbeg : Begun w W1 (w.heap.size + 1 + 1 + 1 + 1 + 1) (w.heap.size + 1 + 1) (w.heap.size + 1 + 1 + 1 + 1) (w.heap.size + 1 + 1 + 1) := by
  refine ⟨⟨?_, ?_, ?_⟩, ⟨by omega, by omega, .slice none 0 0, [], ?_, World.ownsRow_nil _ _ _ _, rfl, fun p hp => by simp at hp⟩, ?_, ?_, ?_, by omega, by omega, by omega⟩
  ·rw [hW1]; go_grown
  ·rw [hW1, old2 _ _ (by go_size), old2 _ _ (by go_size), old2 _ _ (by go_size), old2 _ _ (by go_size), old2 _ _ (by go_size)]; exact qG _ _ rfl
  ·rw [hW1, old2 _ _ (by go_size), old2 _ _ (by go_size), old2 _ _ (by go_size), old2 _ _ (by go_size)]; exact qG _ _ (by go_size)
  ·rw [hW1]; exact qG _ _ (by go_size)
  ·rw [hW1, old2 _ _ (by go_size), old2 _ _ (by go_size), old2 _ _ (by go_size)]; exact qG _ _ (by go_size)
  ·rw [hW1, old2 _ _ (by go_size)]; exact qG _ _ (by go_size)
  ·rw [hW1, old2 _ _ (by go_size), old2 _ _ (by go_size)]; exact qG _ _ (by go_size)
 obtain ⟨ST, E, F, h0, hbx, hrd, hen, hly, hwr⟩ := (HALL.out _ _ _ _ W1 hbeg).ex
 rw [<- hW1]
 obtain ⟨gu, hgu⟩ : ∃ gu, gu = w.heap.size + 1 + 1 + 1 + 1 + 1 := ⟨_, rfl⟩
 rw [<- hgu] at hbx hrd hen hly hwr ⊢
 have hg0 : w.heap.size + 2 <= gu := by omega
 have HBX := Lib.hid hbx
 have HRD := Lib.hid hrd
 have HEN := Lib.hid hen
 have HLY := Lib.hid hly
 have HWR := Lib.hid hwr
 have H0 := Lib.hid h0
 clear hW1 hz hbeg hbx hrd hen hly hwr h0 HALL hmm hgu
 go_loopw [17] (fun iv wr => ∃ k : Nat, k <= ls.length /\ iv = .int .i64 k /\ Hid (ST k wr)) (fun iv _ => ls.length - (intOf iv).toNat)
 case atStart => exact ⟨0, Nat.zero_le _, rfl, H0⟩
 case round =>
  obtain ⟨k, hk, rfl, HS⟩ := hrel
  obtain ⟨hbxk, cU, hcu, z, hz⟩ := HBX.out k wr HS.out
  by_cases hlt : k < ls.length
  ·have hk' : (k : Int) < ls.length := by omega
   obtain ⟨va', vc', ev, _, hcl⟩ := id HV.out
   injection ev with e1 _ e3
   subst e1 e3
   obtain ⟨b, o', rfl, hbl, hcell⟩ := hcl (by omega)
   obtain ⟨td, tn, tc, r0, r1, r2⟩ := hcell k hlt
   have HC := Lib.hid (HRD.out k hlt wr _ HS.out r2)
   generalize (ls[k]'hlt).1 = p at *
   have c1 : wr.cell? ⟨gu, 1, none⟩ = some (.int .i64 z) := qB hcu hz
   have f1 : wr.frozen? ⟨gu, 1, none⟩ = false := qD hcu
   have hgw := qC hcu
   have hBw := hbxk.bel
   replace r0 := (hBw.cell (by show b < w.heap.size; exact hbl)).trans r0
   replace r1 := (hBw.cell (by show b < w.heap.size; exact hbl)).trans r1
   have hbr : b < wr.heap.size := Nat.lt_of_lt_of_le hbl hBw.size
   have hbn : b ≠ gu := by omega
   clear r2 hBw hcell hcl hbxk hcu hz
   go_wp2_with (first | (go_at_call 73; refine HC.out.mono ?_; rintro e' w3 ⟨rfl, hs3⟩; have HS3 := Lib.hid hs3; clear hs3) | fail)
   exact ⟨⟨k + 1, by omega, by go_num, HS3⟩, by simp [intOf]; omega⟩
  ·obtain rfl : k = ls.length := by omega
   have hk' : ¬ ((ls.length : Nat) : Int) < ls.length := by omega
   have HE := Lib.hid (HEN.out wr HS.out)
   clear hbxk hcu hz
   go_wp2_with (first
    | (go_at_call 74; refine HE.out.mono ?_; rintro e' w4 ⟨rfl, hE4⟩)
    | fail)
   refine (HLY.out _ hE4).mono ?_
   rintro e' w5 ⟨rfl, hF5⟩
   have HC := Lib.hid (HWR.out _ hF5)
   clear hF5 hE4 HE HLY HEN HWR HRD HBX
   go_wp2_with (first | (go_at_call 76; refine HC.out.mono ?_; rintro e' w6 ⟨ca, cl, cc, sa, sl, sc, qa, ql, qc, rfl, hob, hbx6⟩; have z0 := hbx6.x0; have z1 := hbx6.x1; have g0 : w6.cell? ⟨w.heap.size, 0, none⟩ = some (.slice none 0 0) := qB z0 rfl; have g1 : w6.cell? ⟨w.heap.size, 1, none⟩ = some (.slice none 0 0) := qB z0 rfl; have g2 : w6.cell? ⟨w.heap.size, 2, none⟩ = some (.slice none 0 0) := qB z0 rfl; have q0 : w6.frozen? ⟨w.heap.size, 0, none⟩ = false := qD z0; have q1 : w6.frozen? ⟨w.heap.size, 1, none⟩ = false := qD z0; have q2 : w6.frozen? ⟨w.heap.size, 2, none⟩ = false := qD z0; obtain ⟨⟨u0, u1⟩, t0, t1⟩ := qV z1; have HOB := Lib.hid hob; have HB6 := Lib.hid hbx6.bel; have Z0 := Lib.hid z0; have Z1 := Lib.hid z1; have zz := qC z1; clear hob hbx6 z0 z1) | fail)
   have n3 : ∀ (x y z : Option Addr) (a b c d e f : Nat) (j : Nat) (n : Int), (#[Value.slice x a b, .slice y c d, .slice z e f] : Array Value)[j]? ≠ some (.int .u8 n) := by
    intro x y z a b c d e f j n h
    rcases j with _ | _ | _ | j <;> simp at h
   have m3 : ∀ (x y z : Option Addr) (a b c d e f : Nat) (j : Nat) (n : ByteArray), (#[Value.slice x a b, .slice y c d, .slice z e f] : Array Value)[j]? ≠ some (.string n) := by
    intro x y z a b c d e f j n h
    rcases j with _ | _ | _ | j <;> simp at h
   have n2 : ∀ (a b : Int) (j : Nat) (n : Int), (#[Value.int .i64 a, .int .i64 b] : Array Value)[j]? ≠ some (.int .u8 n) := by
    intro a b j n h
    rcases j with _ | _ | j <;> simp at h
   have m2 : ∀ (a b : Int) (j : Nat) (n : ByteArray), (#[Value.int .i64 a, .int .i64 b] : Array Value)[j]? ≠ some (.string n) := by
    intro a b j n h
    rcases j with _ | _ | j <;> simp at h
   have o1 := HOB.out.set (i := 0) (v := .slice ca cl cc) Z0.out (m3 _ _ _ _ _ _ _ _ _) (n3 _ _ _ _ _ _ _ _ _)
   have z1 := qI (i := 0) (v := .slice ca cl cc) Z0.out
   have o2 := o1.set (i := 1) (v := .slice sa sl sc) z1 (m3 _ _ _ _ _ _ _ _ _) (n3 _ _ _ _ _ _ _ _ _)
   have z2 := qI (i := 1) (v := .slice sa sl sc) z1
   have o3 := o2.set (i := 2) (v := .slice qa ql qc) z2 (m3 _ _ _ _ _ _ _ _ _) (n3 _ _ _ _ _ _ _ _ _)
   have Z1b : (((w6.setCell ⟨w.heap.size, 0, none⟩ (.slice ca cl cc)).setCell ⟨w.heap.size, 1, none⟩ (.slice sa sl sc)).setCell ⟨w.heap.size, 2, none⟩ (.slice qa ql qc)).heap[w.heap.size + 1]? = some (.cells #[.int .i64 0, .int .i64 0] 38 (0, 0)) := by
    rw [Below.heap_setCell _ _ _ _ (by show w.heap.size + 1 ≠ w.heap.size; omega), Below.heap_setCell _ _ _ _ (by show w.heap.size + 1 ≠ w.heap.size; omega), Below.heap_setCell _ _ _ _ (by show w.heap.size + 1 ≠ w.heap.size; omega)]
    exact Z1.out
   have o4 := o3.set (i := 0) (v := .int .i64 0) Z1b (m2 _ _) (n2 _ _)
   have o5 := o4.set (i := 1) (v := .int .i64 0) (qI (i := 0) (v := .int .i64 0) Z1b) (m2 _ _) (n2 _ _)
   exact bodyPost_ret (v := .tuple #[.agg #[.slice ca cl cc, .slice sa sl sc, .slice qa ql qc], .agg #[.int .i64 0, .int .i64 0]]) (by simp [results, Tryz.results46, go_sem, g0, g1, g2, u0, u1]) rfl ⟨⟨ca, cl, cc, sa, sl, sc, qa, ql, qc, rfl, o5⟩, ((((HB6.out.setCell (Nat.le_refl _) _).setCell (Nat.le_refl _) _).setCell (Nat.le_refl _) _).setCell (Nat.le_succ _) _).setCell (Nat.le_succ _) _⟩
theorem ent_fill (args : Array Value) (w : World) : (callFunc 137 args).run Tryz.prog w = .ok (.enter 137 args) w := by kernel_rfl
theorem ent_num (args : Array Value) (w : World) : (callFunc 138 args).run Tryz.prog w = .ok (.enter 138 args) w := by kernel_rfl
theorem qHZ (args : Array Value) (w : World) : (callFunc 207 args).run Tryz.prog w = .ok (.enter 207 args) w := by kernel_rfl
theorem qFN (args : Array Value) (w : World) : (callFunc 198 args).run Tryz.prog w = .ok (.enter 198 args) w := by kernel_rfl
def ItOk (x : SU) (w : World) (size : Int) (i : It) : Prop :=
 match i.gen with
 | .fill => 0 <= size /\ size <= 100000
 | .num nm add => (i.size = 1 \/ i.size = 2 \/ i.size = 4) /\ nm.length <= maxLen /\ -1000000000000 <= add /\ add <= 1000000000000
 | .plain _ _ _ _ => True
 | .lead _ _ _ _ q => size ≠ 6 /\ GoalOk x w q
theorem qES (x : SU) (w : World) (its : List It) (q : Goal) (p : Int) (hs : S0 x w) (hok : GoalOk x w q) (hp : goalU ⟨x.labs, its, x.firsts⟩ x.ps q = .ok p) : -100000000000 <= p /\ p <= 100001000000 := by
 cases q with
 | val nm add =>
   obtain ⟨_, o2, o3⟩ := hok
   unfold goalU placeU at hp
   simp only at hp
   split at hp
   ·exact absurd hp (by simp)
   ·split at hp
    ·exact absurd hp (by simp)
    ·next k hk =>
     injection hp with hp
     have := hs.bd k
     omega
 | slot g i =>
   unfold goalU at hp
   simp only at hp
   injection hp with hp
   have := hs.bd (x.firsts g + i)
   omega
theorem qB4 (x : SU) (w : World) (its : List It) (i : It) (fa by' : Value) (p size : Int) (rs rs' : List Re) (b : List UInt8) (hg : GenR w x.gu i fa by') (hi : ItOk x w size i) (h0 : 0 <= p) (h1 : p <= 1000000) (hr : rs.length <= 100000) (hok : bytesU ⟨x.labs, its, x.firsts⟩ x.ps p size rs i = .ok (b, rs')) :
  ∃ f caps, by' = .func (.func f) #[] caps /\ (∀ args w, (callFunc f args).run Tryz.prog w = .ok (.enter f args) w) /\ ∀ W rv, WS x w W rv rs -> Calls Tryz.prog f (#[.int .i64 p, .int .i64 size] ++ caps) W fun r W' => ∃ ca cl cc rv', r = .returned (.tuple #[.slice ca cl cc, .int .i64 0]) /\ OBytes W' (.slice ca cl cc) b /\ WS x w W' rv' rs' /\ Ch x.gu rv.ownBlock W W' := by
 unfold GenR at hg
 unfold ItOk at hi
 unfold bytesU at hok
 cases hx : i.gen with
 | fill =>
   rw [hx] at hg hi hok
   simp only at hg hi hok
   obtain ⟨_, rfl⟩ := hg
   injection hok with hok
   obtain ⟨rfl, rfl⟩ := Prod.mk.inj hok
   obtain ⟨n, rfl⟩ := Int.eq_ofNat_of_zero_le hi.1
   refine ⟨_, _, rfl, ent_fill, fun W rv hW => ?_⟩
   refine (qD3 p n W (by omega)).mono ?_
   rintro r W' ⟨rfl, rfl⟩
   exact ⟨_, _, _, rv, rfl, by simpa using qBb W n _ rfl (by omega), hW.go (oalloc _ _), Ch.of (oalloc _ _)⟩
 | num nm add =>
   rw [hx] at hg hi hok
   simp only at hg hi hok
   obtain ⟨_, gb, gs, gv, rfl, k1, k2, k3⟩ := hg
   obtain ⟨s1, s2, s3, s4⟩ := hi
   obtain ⟨sz, hsz⟩ : ∃ sz : Nat, i.size = sz := ⟨i.size.toNat, by omega⟩
   rw [hsz] at k2 s1 hok
   have hkeep : ∀ {W : World} {rv : Value}, WS x w W rv rs -> W.heap[gb]? = _ /\ W.heap[gs]? = _ /\ W.heap[gv]? = _ := fun {W rv} hW => by
    have key : ∀ {q : Nat} {c : Array Value} {t : TypeId}, w.heap[q]? = some (.cells c t (0, 0)) -> t ≠ 143 -> W.heap[q]? = some (.cells c t (0, 0)) := fun {q c t} hq ht => hW.keep hq (by
     rintro rfl
     obtain ⟨c', hu⟩ := hW.ub
     have := hq.symm.trans hu
     injection this with this
     injection this with _ e2
     exact ht e2)
    exact ⟨key k1 (by decide), key k2 (by decide), key k3 (by decide)⟩
   refine ⟨_, _, rfl, ent_num, fun W rv hW => ?_⟩
   obtain ⟨j1, j2, j3⟩ := hkeep hW
   by_cases hn : nm = []
   ·subst hn
    simp only [if_true] at hok
    injection hok with hok
    obtain ⟨rfl, rfl⟩ := Prod.mk.inj hok
    refine (qEb p size gb gs gv sz add W (qB j2 rfl) (qB j3 rfl) (qB j3 rfl) (by omega) (qC j2) (qC j3)).mono ?_
    rintro r W' ⟨⟨g, rfl, _, hg2, hc⟩, hb⟩
    exact ⟨_, _, _, rv, rfl, putB (by omega) hg2 hc, hW.go hb, Ch.of hb⟩
   ·rw [if_neg hn] at hok
    have hrr : b = List.replicate sz 0 /\ rs' = rs ++ [⟨p, sz, (reU x.labs x.ps nm add).1, (reU x.labs x.ps nm add).2⟩] := by
     unfold placeU at hok
     unfold reU
     rw [if_neg hn] at hok
     cases hl : labelAt nm x.labs with
     | none =>
       rw [hl] at hok
       simp only at hok
       injection hok with hok
       obtain ⟨rfl, rfl⟩ := Prod.mk.inj hok
       exact ⟨by simp, rfl⟩
     | some k =>
       rw [hl] at hok
       simp only at hok
       injection hok with hok
       obtain ⟨rfl, rfl⟩ := Prod.mk.inj hok
       exact ⟨by simp, rfl⟩
    obtain ⟨rfl, rfl⟩ := hrr
    refine (qDs x w W rv rs hW p size gb gs gv sz nm add j1 j2 j3 hn s2 s3 s4 (by omega) hr).mono ?_
    rintro r W' ⟨g, rv', rfl, ho, hW', hc⟩
    exact ⟨_, _, _, rv', rfl, ho, hW', hc⟩
 | plain op n m imm =>
   rw [hx] at hg hi hok
   simp only at hg hi hok
   obtain ⟨_, gi, rfl, k1⟩ := hg
   refine ⟨_, _, rfl, qHZ, fun W rv hW => ?_⟩
   cases he : encU op n m imm with
   | error e => rw [he] at hok; exact absurd hok (by simp [Except.map])
   | ok b' =>
     rw [he] at hok
     simp only [Except.map] at hok
     injection hok with hok
     obtain ⟨rfl, rfl⟩ := Prod.mk.inj hok
     have j1 : W.heap[gi]? = some (.cells (In.mk op n m imm).C 73 (0, 0)) := hW.keep k1 (by
      rintro rfl
      obtain ⟨c', hu⟩ := hW.ub
      have := k1.symm.trans hu
      injection this with this
      injection this with _ e2
      exact absurd e2 (by decide))
     refine (qFu ⟨op, n, m, imm⟩ gi p size b' W hW.s0.laid j1 he).mono ?_
     rintro r W' ⟨⟨ca, cl, cc, rfl, ho⟩, hb⟩
     exact ⟨ca, cl, cc, rv, rfl, ho, hW.go hb, Ch.of hb⟩
 | lead op n m imm q =>
   rw [hx] at hg hi hok
   simp only at hg hi hok
   obtain ⟨gt, gi, tv, _, rfl, k1, k2, k3⟩ := hg
   obtain ⟨s1, s2⟩ := hi
   refine ⟨_, _, rfl, qFN, fun W rv hW => ?_⟩
   have key : ∀ {q : Nat} {c : Array Value} {t : TypeId}, w.heap[q]? = some (.cells c t (0, 0)) -> t ≠ 143 -> W.heap[q]? = some (.cells c t (0, 0)) := fun {q c t} hq ht => hW.keep hq (by
    rintro rfl
    obtain ⟨c', hu⟩ := hW.ub
    have := hq.symm.trans hu
    injection this with this
    injection this with _ e2
    exact ht e2)
   cases hq : goalU ⟨x.labs, its, x.firsts⟩ x.ps q with
   | error e => rw [hq] at hok; exact absurd hok (by simp)
   | ok pl =>
     rw [hq] at hok
     simp only [if_neg s1] at hok
     cases hd : ledU op p pl with
     | error e => rw [hd] at hok; exact absurd hok (by simp)
     | ok d =>
       rw [hd] at hok
       simp only at hok
       cases he : encU op n m d with
       | error e => rw [he] at hok; exact absurd hok (by simp [Except.map])
       | ok b' =>
         rw [he] at hok
         simp only [Except.map] at hok
         injection hok with hok
         obtain ⟨rfl, rfl⟩ := Prod.mk.inj hok
         have hbd := qES x w its q pl hW.st s2 hq
         have s2' : GoalOk x W q := by
          cases q with
          | val nm add => exact s2
          | slot g i =>
            obtain ⟨o1, vv, mv, o2⟩ := s2
            exact ⟨o1, vv, mv, key o2 (by decide)⟩
         have hG : GoalR W x.gu tv q := k3.stays fun {q c t} a ht => key a (by rintro rfl; exact absurd ht (by decide))
         have hT : Tells W tv pl := qAY x rv tv q its pl W hW.s0 hW.box hG s2' hq
         refine (qHU gt gi ⟨op, n, m, imm⟩ tv p size pl d b' W hW.s0.laid (key k1 (by decide)) (key k2 (by decide)) hT h0 h1 (by omega) (by omega) s1 hd he).mono ?_
         rintro r W' ⟨⟨ca, cl, cc, rfl, ho⟩, hb⟩
         exact ⟨ca, cl, cc, rv, rfl, ho, hW.go hb, Ch.of hb⟩
end Go.Proofs.YtfmljailbebfgaaGreatDoor
