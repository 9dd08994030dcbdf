import Derived.Test.YtfmljailbebfgaaGreatDoorPut47
import Derived.Test.YtfmljailbebfgaaGreatDoorPut27
import Derived.Test.YtfmljailbebfgaaGreatDoorPut24
set_option maxHeartbeats 2000000
set_option maxRecDepth 100000
namespace Go.Proofs.YtfmljailbebfgaaGreatDoor
open Go.RowKit
def in4 (k : In) : Si.I4 := ⟨k.op, k.n, k.m, k.imm⟩
theorem qDi : ∀ l : List In, Si.qI (l.map in4) = qB5 l
 | [] => rfl
 | a :: l => by
   have := qDi l
   simp only [Si.qI, qB5, List.map_cons, List.flatMap_cons] at this ⊢
   rw [this]
   rfl
theorem qLt (args : Array Value) (w : World) : (callFunc 15 args).run Tryz.prog w = .ok (.enter 15 args) w := by kernel_rfl
theorem qKF (gl b n c k : Nat) (cur : Array Value) (va : Option Addr) (vl vc : Nat) (ob : Ob) (w : World) (hg : w.heap[gl]? = some (.cells #[.slice (some ⟨b, 0, none⟩) n c] 32 (0, 0))) (hb : w.heap[b]? = some (.cells cur 33 (0, 0))) (hk : k < n) (hv : cur[k]? = some (.slice va vl vc)) (hun : ∀ W, Below w.heap.size w W -> qDt (.slice va vl vc) ob W) (hwr : ∀ W c s q, qBg W c s q ob -> Calls Tryz.prog 26 #[.agg #[c, s, q]] W fun r w' => r = .returned (.int .i64 0) /\ Below W.heap.size W w') :
  Calls Tryz.prog 15 #[.int .i64 (k : Int), .pointer (some ⟨gl, 0, none⟩)] w fun e w' => (∃ ca cl cc sa sl sc qa ql qc, e = .returned (.tuple #[.agg #[.slice ca cl cc, .slice sa sl sc, .slice qa ql qc], .int .i64 0]) /\ qBg w' (.slice ca cl cc) (.slice sa sl sc) (.slice qa ql qc) ob) /\ Below w.heap.size w w' := by
 have HBU := Lib.hid fun W (hb : Below w.heap.size w W) => built_ok va vl vc ob W (fun X hX => hun X (hb.trans (hX.mono hb.size))) hwr
 have c0 : w.cell? ⟨gl, 0, none⟩ = some (.slice (some ⟨b, 0, none⟩) n c) := qB hg rfl
 have ck : w.cell? ⟨b, k, none⟩ = some (.slice va vl vc) := qB hb hv
 have zg := qC hg
 have zb := qC hb
 have hk' : (k : Int) < n := by omega
 clear hun hwr hg hb hv
 go_enter Tryz.func15, Tryz.ntmps15
 go_wp2_with fail
 refine (HBU.out _ (qD _ _)).mono ?_
 rintro e w1 ⟨⟨ca, cl, cc, sa, sl, sc, qa, ql, qc, rfl, hob⟩, hb1⟩
 obtain ⟨hB1, hz1, xr⟩ := qT hb1
 have g0 : w1.cell? ⟨w.heap.size, 0, none⟩ = some (.slice none 0 0) := qB xr rfl
 have g1 : w1.cell? ⟨w.heap.size, 1, none⟩ = some (.slice none 0 0) := qB xr rfl
 have g2 : w1.cell? ⟨w.heap.size, 2, none⟩ = some (.slice none 0 0) := qB xr rfl
 have q0 : w1.frozen? ⟨w.heap.size, 0, none⟩ = false := qE xr
 have q1 : w1.frozen? ⟨w.heap.size, 1, none⟩ = false := qE xr
 have q2 : w1.frozen? ⟨w.heap.size, 2, none⟩ = false := qE xr
 have HB3 := Lib.hid hB1
 have HOB := Lib.hid hob
 have Z0 := Lib.hid xr
 clear hb1 hB1 hob xr HBU c0 ck
 go_wp2_with fail
 have n3 : ∀ (x y z : Option Addr) (a b c d e f : Nat) (j : Nat) (n : Int), (#[Value.slice x a b, .slice y c d, .slice z e f] : Array Value)[j]? ≠ some (.int .u8 n) := by
  intro x y z a b c d e f j n h
  rcases j with _ | _ | _ | j <;> simp at h
 have m3 : ∀ (x y z : Option Addr) (a b c d e f : Nat) (j : Nat) (n : ByteArray), (#[Value.slice x a b, .slice y c d, .slice z e f] : Array Value)[j]? ≠ some (.string n) := by
  intro x y z a b c d e f j n h
  rcases j with _ | _ | _ | j <;> simp at h
 have o1 := HOB.out.set (i := 0) (v := .slice ca cl cc) Z0.out (m3 _ _ _ _ _ _ _ _ _) (n3 _ _ _ _ _ _ _ _ _)
 have z1 := qP (i := 0) (v := .slice ca cl cc) Z0.out
 have o2 := o1.set (i := 1) (v := .slice sa sl sc) z1 (m3 _ _ _ _ _ _ _ _ _) (n3 _ _ _ _ _ _ _ _ _)
 have z2 := qP (i := 1) (v := .slice sa sl sc) z1
 have o3 := o2.set (i := 2) (v := .slice qa ql qc) z2 (m3 _ _ _ _ _ _ _ _ _) (n3 _ _ _ _ _ _ _ _ _)
 exact bodyPost_ret (v := .tuple #[.agg #[.slice ca cl cc, .slice sa sl sc, .slice qa ql qc], .int .i64 0]) (by simp [results, Tryz.results15, go_sem, g0, g1, g2]) rfl ⟨⟨ca, cl, cc, sa, sl, sc, qa, ql, qc, rfl, o3⟩, ((HB3.out.setCell (Nat.le_refl _) _).setCell (Nat.le_refl _) _).setCell (Nat.le_refl _) _⟩
theorem link_one (ob : Ob) (base : Int) (s : List Sy) (h0 : 0 <= base) (h1 : base <= 1048576) (h4 : base % 4 = 0) (hw : qAD qO ob = 0) (hr : ob.rels = []) (hs : Li.qAP base [] ob.syms = some s) : Li.qCJ qO [ob] base = .ok (ob.code, s) := by
 have hu : Li.up4 base = base := Li.qEp h4
 have e1 : Li.qAB qO 0 [ob] = none := by simp [Li.qAB, hw]
 have e2 : [ob].zip (Li.qm base [ob]) = [(ob, base)] := by simp [Li.qm, hu]
 have e3 : Li.layL base 0 [] [] [(ob, base)] = .ok (ob.code, s) := by
  simp [Li.layL, hs]
 have e4 : Li.relL s base 0 ob.code [(ob, base)] = .ok ob.code := by
  simp [Li.relL, hr, Li.qAY]
 unfold Li.qCJ
 rw [if_neg (by omega), if_neg (by simp)]
 unfold Li.qGC
 rw [e1]
 show Li.qGG [ob] base = _
 unfold Li.qGG
 rw [e2, e3]
 show Li.qHd base [(ob, base)] (ob.code, s) = _
 unfold Li.qHd
 simp only [e4]
theorem qIo (l : List In) : (qB5 l).length = 2 * l.length := by
 rw [<- qDi, Si.qA8]
 simp
def qFE : Ob := ⟨qB5 qFY, [], []⟩
theorem qEn : qAD qO qFE = 0 := by
 have h2 := qIo qFY
 unfold qAD qFE
 simp only
 rw [if_neg (by rw [h2]; simp [qFY]), if_pos (show qAj qO (qB5 qFY).length [] [] = 0 from rfl)]
 rfl
theorem qMA : Li.qCJ qO [qFE] 0 = .ok (qB5 qFY, []) := link_one qFE 0 [] (by decide) (by decide) (by decide) qEn rfl rfl
def five4 : List Si.I4 := [⟨3, 0, 0, 5⟩, ⟨27, 0, 0, 1⟩, ⟨27, 0, 0, 0⟩]
theorem qJc : qB5 qFY = Si.qI five4 := by rw [<- qDi]; rfl
theorem five_run {m : Si.Ma} {x y : Int} {tt : Bool} (h : Si.At m five4 0 x y tt []) : Si.runE 2000 m = 0 /\ (Si.runM 2000 m).told = [5] /\ ∀ M, Si.Rch m M -> Si.ResM M := by
 obtain ⟨g1, a1⟩ := Si.go_mov0 5 h (by decide) rfl (Si.qMN 0 5 (.inl rfl) (by decide) (by decide))
 obtain ⟨g2, a2⟩ := Si.go_tell a1 (by decide) rfl
 obtain ⟨e1, e2, e3, e4⟩ := Si.at_end a2 (by decide) rfl
 have hw : Si.Walks 2 m (Si.qx (Si.qx m)) := .step g1 (.step g2 (.here _))
 have := hw.run (n := 1998)
 refine ⟨?_, ?_, hw.res e2 e4⟩
 ·rw [show (2000 : Nat) = 2 + 1998 from rfl, this.1]
  show (if Si.qAE _ ≠ 0 then _ else _) = _
  rw [if_neg (by rw [e1]; simp), if_pos e2]
 ·rw [show (2000 : Nat) = 2 + 1998 from rfl, this.2]
  show (if Si.qAE _ ≠ 0 then _ else if _ then _ else _ : Si.Ma).told = _
  rw [if_neg (by rw [e1]; simp), if_pos e2]
  exact e3
theorem infoOb : (Tryz.prog.info? 51).map (fun i => (i.zero, i.size, i.bytes)) = some (some (.agg #[.slice none 0 0, .slice none 0 0, .slice none 0 0]), 3, 72) := by kernel_rfl
def ObTo (ob : Ob) (W : World) (e : Ending) (w' : World) : Prop := (∃ ca cl cc sa sl sc qa ql qc, e = .returned (.tuple #[.agg #[.slice ca cl cc, .slice sa sl sc, .slice qa ql qc], .int .i64 0]) /\ qBg w' (.slice ca cl cc) (.slice sa sl sc) (.slice qa ql qc) ob) /\ Below W.heap.size W w'
def ImgTo (base : Int) (code : List UInt8) (sy : List Sy) (w : World) (e : Ending) (w' : World) : Prop := (∃ ba bc s0 s2, e = .returned (.tuple #[.agg #[.int .i64 base, .slice ba code.length bc, .slice s0 sy.length s2], .agg #[.int .i64 0, .int .i64 0]]) /\ qg w' (.slice ba code.length bc) code /\ qAu w' (.slice s0 sy.length s2) sy) /\ Below w.heap.size w w'
theorem brd_of {w : World} {v : Value} {l : List UInt8} (h : qg w v l) : ∃ ba bc, v = .slice ba l.length bc /\ Si.BRd w ba l := by
 obtain ⟨ad, cap, rfl, _, hc⟩ := h
 refine ⟨ad, cap, rfl, fun h0 => ?_⟩
 obtain ⟨b, o, rfl, hl, hcs⟩ := hc h0
 refine ⟨b, o, rfl, hl, fun i hi => ?_⟩
 rw [hcs i hi]
 simp [Si.bsOf, List.getD, hi]
theorem mv_new {w : World} {base : Int} {l : List UInt8} {sy : List Sy} {gb gs : Nat} (h1 : w.heap[gb]? = some (.cells (Si.qBA l).toArray 5 (0, 0))) (h2 : w.heap[gs]? = some (.cells (Si.qY sy).toArray 83 (0, 0))) :
  Si.MV w (.agg (Si.mC (Si.newM base l) (some ⟨gb, 0, none⟩) l.length (.slice (some ⟨gs, 0, none⟩) sy.length sy.length) none 0)) (Si.newM base l) sy := by
 refine ⟨_, _, _, _, _, _, rfl, fun _ => ?_, fun h0 => absurd h0 (by simp [Si.newM]), Si.qDz h2 (Si.qCs sy)⟩
 refine ⟨gb, 0, rfl, qC h1, fun i hi => ?_⟩
 rw [Nat.zero_add]
 refine qB h1 ?_
 have hi' : i < l.length := hi
 simp [Si.qBA, Si.bsOf, Si.newM, List.getD, hi']
theorem new_of (base : Int) (code : List UInt8) (sy : List Sy) (bv sv : Value) (w : World) (hB : qg w bv code) (hS : qAu w sv sy) (hl : code.length <= 1048576) (hsl : sy.length <= 1000) :
  Calls Tryz.prog 12 #[.agg #[.int .i64 base, bv, sv]] w fun e w' => ∃ v, e = .returned v /\ Below w.heap.size w w' /\ Si.MV w' v (Si.newM base code) sy := by
 obtain ⟨ba, bc, rfl, hb⟩ := brd_of hB
 obtain ⟨s0, s2, rfl, hs⟩ := Si.qAu.src hS
 refine (Si.pnew_any base code ba bc sy s0 s2 w hb hs (by omega) (by omega)).mono ?_
 rintro e w' ⟨gb, gs, rfl, hbl, _, _, h1, h2⟩
 exact ⟨_, rfl, hbl, mv_new h1 h2⟩
theorem runs_new (base : Int) (code : List UInt8) (h0 : 0 <= base) (h1 : base <= 1048576) (hl : code.length <= 1048576) : Si.Runs (Si.newM base code) 0 := by
 have z : Si.in32 0 := ⟨by decide, by decide⟩
 refine ⟨h0, h1, hl, by simp [Si.newM], fun k => z, ⟨?_, ?_⟩, ⟨show (-2147483648 : Int) <= -1 by decide, show (-1 : Int) <= 2147483647 by decide⟩, by simp [Si.newM], by simp [Si.newM]⟩
 ·show -2147483648 <= base; omega
 ·show base <= 2147483647; omega
theorem run_of (base : Int) (code : List UInt8) (sy : List Sy) (tl : List Int) (v : Value) (w : World) (hv : Si.MV w v (Si.newM base code) sy) (hL : Isa.Laid w) (h0 : 0 <= base) (h1 : base <= 1048576) (hl : code.length <= 1048576) (hsl : sy.length <= 1000)
  (hr : Si.runE 2000 (Si.newM base code) = 0 /\ (Si.runM 2000 (Si.newM base code)).told = tl /\ ∀ M, Si.Rch (Si.newM base code) M -> Si.ResM M) :
  Calls Tryz.prog 11 #[v, .int .i64 2000] w fun e w' => ∃ m ba bc s0 sl s2 ta tc, e = .returned (.tuple #[.agg (Si.mC m ba bc (.slice s0 sl s2) ta tc), .int .i64 0]) /\ m.told = tl /\ Si.TRd w' ta tl /\ Below w.heap.size w w' := by
 refine (Si.run_res (Si.newM base code) sy v 2000 w hv hL (runs_new base code h0 h1 hl) (by decide) (by omega) hr.2.2).mono ?_
 rintro e w' ⟨v', rfl, hb, h⟩
 rcases h with ⟨h, _⟩ | ⟨_, h⟩
 ·exact absurd hr.1 h
 ·obtain ⟨ba, bc, s0, s2, ta, tc, rfl, _, h3, _⟩ := h.mv
  exact ⟨_, ba, bc, s0, _, s2, ta, tc, by rw [hr.1], hr.2.1, by rw [<- hr.2.1]; exact h3, hb⟩
theorem newbox (W : World) (z c : Array Value) : Below W.heap.size W ((W.alloc (.cells z 43)).setRow W.heap.size c) /\ ((W.alloc (.cells z 43)).setRow W.heap.size c).heap[W.heap.size]? = some (.cells c 43 (0, 0)) :=
 ⟨below_setRow (qD _ _) (Nat.le_refl _) _, setRow_heap _ _ _ _ _ _ (qH W _ rfl)⟩
theorem qKs {W : World} {g : Nat} {m : Si.Ma} {ba : Option Addr} {bc : Nat} {sv : Value} {ta : Option Addr} {tc : Nat} (h : W.heap[g]? = some (.cells (Si.mC m ba bc sv ta tc) 43 (0, 0))) : W.cell? ⟨g, 22, none⟩ = some (.slice ta m.told.length tc) := qB (i := 22) h rfl
theorem at_new (l : List Si.I4) : Si.At (Si.newM 0 (Si.qI l)) l 0 0 0 false [] := ⟨rfl, rfl, rfl, rfl, rfl, rfl, rfl⟩
theorem infoBy : (Tryz.prog.info? 33).map (fun i => (i.zero, i.size, i.bytes)) = some (some (.slice none 0 0), 1, 24) := by kernel_rfl
theorem qGa {w w' : World} {v : Value} {bs : List UInt8} (h : Sc.qA7 w v bs) (hb : Below w.heap.size w w') : Sc.qA7 w' v bs := by
 obtain ⟨ad, cap, rfl, hm, hc⟩ := h
 refine ⟨ad, cap, rfl, hm, fun h0 => ?_⟩
 obtain ⟨b, o, rfl, hlt, hcell⟩ := hc h0
 exact ⟨b, o, rfl, Nat.lt_of_lt_of_le hlt hb.size, fun i hi => by rw [hb.cell (by exact hlt)]; exact hcell i hi⟩
theorem qJD {w3 : World} {gi gf : Nat} (hne : gf ≠ gi) {base : Int} {code : List UInt8} {sy : List Sy} {ba s0 : Option Addr} {bc s2 : Nat} (Z0 : w3.heap[gi]? = some (.cells #[.int .i64 0, .slice none 0 0, .slice none 0 0] 36 (0, 0))) (Z1 : w3.heap[gf]? = some (.cells #[.int .i64 0, .int .i64 0] 38 (0, 0))) (H1 : qg w3 (.slice ba code.length bc) code) (H2 : qAu w3 (.slice s0 sy.length s2) sy) :
  qg (((((w3.setCell ⟨gi, 0, none⟩ (.int .i64 base)).setCell ⟨gi, 1, none⟩ (.slice ba code.length bc)).setCell ⟨gi, 2, none⟩ (.slice s0 sy.length s2)).setCell ⟨gf, 0, none⟩ (.int .i64 0)).setCell ⟨gf, 1, none⟩ (.int .i64 0)) (.slice ba code.length bc) code /\ qAu (((((w3.setCell ⟨gi, 0, none⟩ (.int .i64 base)).setCell ⟨gi, 1, none⟩ (.slice ba code.length bc)).setCell ⟨gi, 2, none⟩ (.slice s0 sy.length s2)).setCell ⟨gf, 0, none⟩ (.int .i64 0)).setCell ⟨gf, 1, none⟩ (.int .i64 0)) (.slice s0 sy.length s2) sy := by
 have n3 : ∀ (a : Int) (x y : Option Addr) (b c d e : Nat) (j : Nat) (n : Int), (#[Value.int .i64 a, .slice x b c, .slice y d e] : Array Value)[j]? ≠ some (.int .u8 n) := by
  intro a x y b c d e j n h
  rcases j with _ | _ | _ | j <;> simp at h
 have m3 : ∀ (a : Int) (x y : Option Addr) (b c d e : Nat) (j : Nat) (n : ByteArray), (#[Value.int .i64 a, .slice x b c, .slice y d e] : Array Value)[j]? ≠ some (.string n) := by
  intro a x y b c d e j n h
  rcases j with _ | _ | _ | j <;> simp at h
 have n2 : ∀ (a b : Int) (j : Nat) (n : Int), (#[Value.int .i64 a, .int .i64 b] : Array Value)[j]? ≠ some (.int .u8 n) := by
  intro a b j n h
  rcases j with _ | _ | j <;> simp at h
 have m2 : ∀ (a b : Int) (j : Nat) (n : ByteArray), (#[Value.int .i64 a, .int .i64 b] : Array Value)[j]? ≠ some (.string n) := by
  intro a b j n h
  rcases j with _ | _ | j <;> simp at h
 have t1 := qP (i := 0) (v := .int .i64 base) Z0
 have t2 := qP (i := 1) (v := .slice ba code.length bc) t1
 have b1 := H1.set (i := 0) (v := .int .i64 base) Z0 (n3 _ _ _ _ _ _ _)
 have b2 := b1.set (i := 1) (v := .slice ba code.length bc) t1 (n3 _ _ _ _ _ _ _)
 have b3 := b2.set (i := 2) (v := .slice s0 sy.length s2) t2 (n3 _ _ _ _ _ _ _)
 have c1 := H2.set (i := 0) (v := .int .i64 base) Z0 (m3 _ _ _ _ _ _ _)
 have c2 := c1.set (i := 1) (v := .slice ba code.length bc) t1 (m3 _ _ _ _ _ _ _)
 have c3 := c2.set (i := 2) (v := .slice s0 sy.length s2) t2 (m3 _ _ _ _ _ _ _)
 have u0 : (((w3.setCell ⟨gi, 0, none⟩ (.int .i64 base)).setCell ⟨gi, 1, none⟩ (.slice ba code.length bc)).setCell ⟨gi, 2, none⟩ (.slice s0 sy.length s2)).heap[gf]? = some (.cells #[.int .i64 0, .int .i64 0] 38 (0, 0)) := by
  rw [Below.heap_setCell _ _ _ _ hne, Below.heap_setCell _ _ _ _ hne, Below.heap_setCell _ _ _ _ hne]
  exact Z1
 have u1 := qP (i := 0) (v := .int .i64 0) u0
 exact ⟨(b3.set (i := 0) (v := .int .i64 0) u0 (n2 _ _)).set (i := 1) (v := .int .i64 0) u1 (n2 _ _), (c3.set (i := 0) (v := .int .i64 0) u0 (m2 _ _)).set (i := 1) (v := .int .i64 0) u1 (m2 _ _)⟩
theorem qJy {ob : Ob} (hw : qAD qO ob = 0) (hn : ∀ x, x ∈ ob.syms -> x.name.length <= maxLen) (W : World) (c s q : Value) (h : qBg W c s q ob) : Calls Tryz.prog 26 #[.agg #[c, s, q]] W fun r w' => r = .returned (.int .i64 0) /\ Below W.heap.size W w' := by
 have := Li.qB2 ob c s q W h.1 h.2.1 h.2.2 hn
 rw [hw] at this
 exact this
def qBj (c : Array Value) : Prop := ∀ (j : Nat) u, c[j]? = some u -> ∃ a l k, u = .slice a l k
theorem qBj.app {a b : Array Value} (ha : qBj a) (hb : qBj b) : qBj (a ++ b) := by
 intro j u h
 rw [Array.getElem?_append] at h
 split at h
 ·exact ha _ _ h
 ·exact hb _ _ h
theorem qBj.list {l : List Value} (h : ∀ u, u ∈ l -> ∃ a n k, u = .slice a n k) : qBj l.toArray := by
 intro j u hu
 exact h u (by simpa using List.mem_of_getElem? (by simpa using hu))
theorem qBj.mem {c : Array Value} (h : qBj c) {u : Value} (hu : u ∈ c.toList) : ∃ a n k, u = .slice a n k := by
 obtain ⟨j, hj⟩ := List.mem_iff_getElem?.1 hu
 exact h j u (by simpa using hj)
theorem qBj.zero {z : Array Value} (hz : qBj z) (n : Nat) : qBj (Builtin.zeroCells z n) := by
 intro j u h
 unfold Builtin.zeroCells at h
 rw [Array.getElem?_map] at h
 have hj : j < n * z.size := by
  rcases Nat.lt_or_ge j (n * z.size) with h1 | h1
  ·exact h1
  ·rw [Array.getElem?_eq_none (by simpa using h1)] at h
   cases h
 have hp : 0 < z.size := by
  rcases Nat.eq_zero_or_pos z.size with h0 | h0
  ·rw [h0, Nat.mul_zero] at hj
   omega
  ·exact h0
 rw [Array.getElem?_range, if_pos hj] at h
 simp only [Option.map_some, Option.some.injEq] at h
 have hm : j % z.size < z.size := Nat.mod_lt _ hp
 rw [getElem!_pos z (j % z.size) hm] at h
 exact hz (j % z.size) u (by rw [Array.getElem?_eq_getElem hm, h])
structure qBE (w w' : World) : Prop where
 size : w.heap.size <= w'.heap.size
 cell : ∀ p u, w.cell? p = some u -> (∀ a l k, u ≠ .slice a l k) -> w'.cell? p = some u
theorem qBE.below {w w' : World} (h : Below w.heap.size w w') : qBE w w' := ⟨h.size, fun p u hp _ => by rw [h.cell (World.block_lt_of_cell? w p hp)]; exact hp⟩
theorem qBE.bytes {w w' : World} (h : qBE w w') {v : Value} {l : List UInt8} (ho : qg w v l) : qg w' v l := by
 obtain ⟨ad, cap, rfl, h1, h2⟩ := ho
 refine ⟨ad, cap, rfl, h1, fun h0 => ?_⟩
 obtain ⟨b, o, rfl, hb, hc⟩ := h2 h0
 exact ⟨b, o, rfl, Nat.lt_of_lt_of_le hb h.size, fun i hi => h.cell _ _ (hc i hi) (by intro a l k e; cases e)⟩
theorem qBE.syms {w w' : World} (h : qBE w w') {v : Value} {l : List Sy} (ho : qAu w v l) : qAu w' v l := by
 obtain ⟨ad, cap, rfl, h1, h2⟩ := ho
 refine ⟨ad, cap, rfl, h1, fun h0 => ?_⟩
 obtain ⟨b, o, rfl, hb, hc⟩ := h2 h0
 refine ⟨b, o, rfl, Nat.lt_of_lt_of_le hb h.size, fun i hi => ?_⟩
 obtain ⟨c1, c2⟩ := hc i hi
 exact ⟨h.cell _ _ c1 (by intro a l k e; cases e), h.cell _ _ c2 (by intro a l k e; cases e)⟩
theorem qBE.rels {w w' : World} (h : qBE w w') {v : Value} {l : List Re} (ho : qC2 w v l) : qC2 w' v l := by
 obtain ⟨ad, cap, rfl, h1, h2⟩ := ho
 refine ⟨ad, cap, rfl, h1, fun h0 => ?_⟩
 obtain ⟨b, o, rfl, hb, hc⟩ := h2 h0
 refine ⟨b, o, rfl, Nat.lt_of_lt_of_le hb h.size, fun i hi => ?_⟩
 obtain ⟨c1, c2, c3, c4⟩ := hc i hi
 exact ⟨h.cell _ _ c1 (by intro a l k e; cases e), h.cell _ _ c2 (by intro a l k e; cases e), h.cell _ _ c3 (by intro a l k e; cases e), h.cell _ _ c4 (by intro a l k e; cases e)⟩
theorem qBE.obj {w w' : World} (h : qBE w w') {c s q : Value} {ob : Ob} (ho : qBg w c s q ob) : qBg w' c s q ob := ⟨h.bytes ho.1, h.syms ho.2.1, h.rels ho.2.2⟩
theorem qBE.breads {w w' : World} (h : qBE w w') {v : Value} {l : List UInt8} (ho : Sc.qA7 w v l) : Sc.qA7 w' v l := by
 obtain ⟨ad, cap, rfl, h1, h2⟩ := ho
 refine ⟨ad, cap, rfl, h1, fun h0 => ?_⟩
 obtain ⟨b, o, rfl, hb, hc⟩ := h2 h0
 exact ⟨b, o, rfl, Nat.lt_of_lt_of_le hb h.size, fun i hi => h.cell _ _ (hc i hi) (by intro a l k e; cases e)⟩
structure SR (w : World) (base : Nat) (e : TypeId) (size : Nat) (v : Value) (n : Nat) (xs : List Value) : Prop where
 own : w.ownsRow base e size v n xs
 sl : ∀ g, v.ownBlock = some g -> ∃ cur, w.heap[g]? = some (.cells cur e (0, 0)) /\ qBj cur
theorem SR.nil (w : World) (base : Nat) (e : TypeId) (size : Nat) : SR w base e size (.slice none 0 0) 0 [] := ⟨World.ownsRow_nil w base e size, fun g h => by cases h⟩
theorem SR.below {w w' : World} {base : Nat} {e : TypeId} {size : Nat} {v : Value} {n : Nat} {xs : List Value} (h : SR w base e size v n xs) (hb : Below w.heap.size w w') : SR w' base e size v n xs := by
 refine ⟨⟨h.own.1, ?_⟩, fun g hg => ?_⟩
 ·rcases h.own.2 with h5 | ⟨q, cap, cur, h5, h6, h7, h8⟩
  ·exact .inl h5
  ·exact .inr ⟨q, cap, cur, h5, h6, by rw [hb.block _ (qC h7)]; exact h7, h8⟩
 ·obtain ⟨cur, h1, h2⟩ := h.sl g hg
  exact ⟨cur, by rw [hb.block _ (qC h1)]; exact h1, h2⟩
theorem app_sl (t e : TypeId) (z : Value) (size bytes : Nat) (ht : Tryz.prog.underlying t = some (.slice e)) (hinfo : (Tryz.prog.info? e).map (fun i => (i.zero, i.size, i.bytes)) = some (some z, size, bytes)) (hzs : z.cells.size = size) (hsz : 0 < size) (hby : bytes <= 1000) (hzl : qBj z.cells)
  {w : World} {base n : Nat} {v : Value} {xs : List Value} (ho : SR w base e size v n xs) (hb : base <= w.heap.size) (news : List Value) (hl : news.length = size) (g : Nat) (hg : w.heap[g]? = some (.cells news.toArray e (0, 0))) (hns : qBj news.toArray) (hn : n <= 1000000) :
  ∃ la lc w', (∀ ty, (Builtin.append_ #[t, t] ty #[v, .slice (some ⟨g, 0, none⟩) 1 1]).run Tryz.prog w = .ok (.slice la (n + 1) lc) w') /\ SR w' base e size (.slice la (n + 1) lc) (n + 1) (xs ++ news) /\ Below base w w' /\ qBE w w' := by
 obtain ⟨i, hi, hz0, hz1, hz2⟩ := info_parts hinfo
 have h1 : ∀ u ∈ news, u.oneCell' = true := fun u hu => by obtain ⟨a, l, k, rfl⟩ := hns.mem (by simpa using hu); rfl
 have hnews : ∀ j u, news[j]? = some u -> w.cell? ((⟨g, 0, none⟩ : Addr).add j) = some u := fun j u hj => by
  have hadd : (⟨g, 0, none⟩ : Addr).add j = ⟨g, 0 + j, none⟩ := by unfold Addr.add; split <;> simp_all
  rw [hadd, Nat.zero_add]
  exact qB hg (by simpa using hj)
 have hml : n + 1 <= maxLen := by unfold maxLen; omega
 have hb2 : (n + 1) * bytes <= 140737488355328 := Nat.le_trans (Nat.mul_le_mul (Nat.add_le_add_right hn 1) hby) (by decide)
 subst hz1 hz2
 have hlen : (xs ++ news).length = (n + 1) * i.size := by rw [List.length_append, ho.own.1, hl, Nat.add_mul, Nat.one_mul]
 have grown : ∀ old, old < n + 1 -> qBj xs.toArray -> SR (w.drew.alloc (.cells (xs.toArray ++ news.toArray ++ Builtin.zeroCells z.cells (grownCap w (n + 1) old e - (n + 1))) e)) base e i.size (.slice (some ⟨w.heap.size, 0, none⟩) (n + 1) (grownCap w (n + 1) old e)) (n + 1) (xs ++ news) /\ Below base w (w.drew.alloc (.cells (xs.toArray ++ news.toArray ++ Builtin.zeroCells z.cells (grownCap w (n + 1) old e - (n + 1))) e)) /\ qBE w (w.drew.alloc (.cells (xs.toArray ++ news.toArray ++ Builtin.zeroCells z.cells (grownCap w (n + 1) old e - (n + 1))) e)) := by
  intro old hold hxs
  have hge := grownCap_ge w (n + 1) old e
  have hcm : grownCap w (n + 1) old e <= maxLen := grownCap_le_maxLen w (n + 1) old e hml
  have hbl : Below w.heap.size w (w.drew.alloc (.cells (xs.toArray ++ news.toArray ++ Builtin.zeroCells z.cells (grownCap w (n + 1) old e - (n + 1))) e)) := ⟨rfl, rfl, rfl, by simp, fun k hk => _root_.Go.heap_alloc_old w.drew _ hk⟩
  refine ⟨⟨⟨hlen, .inr ⟨w.heap.size, _, _, rfl, hb, heap_alloc_new w.drew _, hge, hcm, ?_, ?_⟩⟩, fun g' hg' => ?_⟩, hbl.mono hb, qBE.below hbl⟩
  ·simp only [Array.size_append, List.size_toArray, size_zeroCells, hzs, ho.own.1, hl]
   rw [show n * i.size + i.size = (n + 1) * i.size by rw [Nat.add_mul, Nat.one_mul], <- Nat.add_mul]
   congr 1
   omega
  ·simp only [Array.toList_append, List.append_assoc]
   rw [<- List.append_assoc, <- hlen]
   exact List.take_left
  ·obtain rfl : w.heap.size = g' := by simpa [Value.ownBlock] using hg'
   exact ⟨_, heap_alloc_new w.drew _, (hxs.app hns).app (hzl.zero _)⟩
 rcases ho.own.2 with ⟨rfl, rfl⟩ | ⟨q, cap, cur, rfl, hbg, hq, hnc, hcm, hcs, htake⟩
 ·have hx : xs = [] := List.eq_nil_of_length_eq_zero (by simpa using ho.own.1)
  subst hx
  have hr := fun ty => run_append_nil (P := Tryz.prog) w t ty e i z ht hi hz0 ⟨g, 0, none⟩ 1 1 news (by rw [hl, Nat.one_mul]) hnews (by omega) (by omega) (by omega)
  have hgr := grown 0 (by omega) (qBj.list (by simp))
  simp only [Nat.zero_add, List.nil_append, Array.empty_append] at hgr ⊢
  exact ⟨_, _, _, hr, hgr⟩
 ·obtain ⟨cur', hq', hsl⟩ := ho.sl q rfl
  obtain rfl : cur = cur' := by rw [hq] at hq'; injection hq' with hq'; injection hq'
  have hxs : qBj xs.toArray := qBj.list fun u hu => hsl.mem (List.mem_of_mem_take (by rw [htake]; exact hu))
  by_cases hroom : n + 1 <= cap
  ·have hfit : n * i.size + news.length <= cur.size := by
    rw [hl, hcs, show n * i.size + i.size = (n + 1) * i.size by rw [Nat.add_mul, Nat.one_mul]]
    exact Nat.mul_le_mul_right _ hroom
   have hr := fun ty => run_append_room (P := Tryz.prog) w t ty e i ht hi q n cap cur hq ⟨g, 0, none⟩ 1 1 news (by rw [hl, Nat.one_mul]) hnews h1 hroom hfit
   refine ⟨_, _, _, hr, ⟨⟨hlen, .inr ⟨q, cap, _, rfl, hbg, setRow_heap w q cur _ e _ hq, hroom, hcm, ?_, ?_⟩⟩, fun g' hg' => ?_⟩, ⟨rfl, rfl, rfl, by simp, fun k hk => setRow_other w q k _ (by omega)⟩, ⟨by simp, fun p u hp hu => ?_⟩⟩
   ·simp only [List.size_toArray, List.length_append, List.length_take, List.length_drop, Array.length_toList]
    omega
   ·rw [htake, <- hlen]
    exact List.take_left
   ·obtain rfl : q = g' := by simpa [Value.ownBlock] using hg'
    refine ⟨_, setRow_heap w q cur _ e _ hq, qBj.list fun u hu => ?_⟩
    simp only [List.mem_append] at hu
    rcases hu with (hu | hu) | hu
    ·exact hsl.mem (List.mem_of_mem_take hu)
    ·exact hns.mem (by simpa using hu)
    ·exact hsl.mem (List.mem_of_mem_drop hu)
   ·have hne : p.block ≠ q := by
     rintro rfl
     unfold World.cell? at hp
     rw [hq] at hp
     simp only at hp
     split at hp
     ·cases hp
     ·obtain ⟨a, l, k, e0⟩ := hsl _ _ hp
      exact hu a l k e0
    rw [World.cell?_of_block (w := w) (setRow_other w q p.block _ hne)]
    exact hp
  ·have holds : ∀ j u, xs[j]? = some u -> w.cell? ((⟨q, 0, none⟩ : Addr).add j) = some u := ho.own.cells (g := q) rfl
   have hr := fun ty => run_append_grow (P := Tryz.prog) w t ty e i z ht hi hz0 ⟨q, 0, none⟩ n cap xs ho.own.1 holds ⟨g, 0, none⟩ 1 1 news (by rw [hl, Nat.one_mul]) hnews (by omega) (by omega) (growslice_fits (by omega) hb2)
   exact ⟨_, _, _, hr, grown cap (by omega) hxs⟩
end Go.Proofs.YtfmljailbebfgaaGreatDoor
