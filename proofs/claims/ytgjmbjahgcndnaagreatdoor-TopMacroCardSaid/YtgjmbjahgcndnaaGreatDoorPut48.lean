import Derived.Test.YtgjmbjahgcndnaaGreatDoorPut23
import Derived.Test.YtgjmbjahgcndnaaGreatDoorPut45
set_option maxHeartbeats 4000000
set_option maxRecDepth 100000
namespace Go.Proofs.YtgjmbjahgcndnaaGreatDoor
open Go.RowKit
def in4 (k : In) : Si.I4 := ⟨k.op, k.n, k.m, k.imm⟩
theorem qCi : ∀ l : List In, Si.qAH (l.map in4) = qAo l
 | [] => rfl
 | a :: l => by
   have := qCi l
   simp only [Si.qAH, qAo, List.map_cons, List.flatMap_cons] at this ⊢
   rw [this]
   rfl
theorem qLo (args : Array Value) (w : World) : (callFunc 13 args).run Tryz.prog w = .ok (.enter 13 args) w := by kernel_rfl
theorem qLZ (gl b n c k : Nat) (cur : Array Value) (va : Option Addr) (vl vc : Nat) (ob : Ob) (w : World) (hg : w.heap[gl]? = some (.cells #[.slice (some ⟨b, 0, none⟩) n c] 30 (0, 0))) (hb : w.heap[b]? = some (.cells cur 31 (0, 0))) (hk : k < n) (hv : cur[k]? = some (.slice va vl vc)) (hun : ∀ W, Below w.heap.size w W -> qCy (.slice va vl vc) ob W) (hwr : ∀ W c s q, qB1 W c s q ob -> Calls Tryz.prog 24 #[.agg #[c, s, q]] W fun r w' => r = .returned (.int .i64 0) /\ Below W.heap.size W w') :
  Calls Tryz.prog 13 #[.int .i64 (k : Int), .pointer (some ⟨gl, 0, none⟩)] w fun e w' => (∃ ca cl cc sa sl sc qa ql qc, e = .returned (.tuple #[.agg #[.slice ca cl cc, .slice sa sl sc, .slice qa ql qc], .int .i64 0]) /\ qB1 w' (.slice ca cl cc) (.slice sa sl sc) (.slice qa ql qc) ob) /\ Below w.heap.size w w' := by
 have HBU := Lib.hid fun W (hb : Below w.heap.size w W) => built_ok va vl vc ob W (fun X hX => hun X (hb.trans (hX.mono hb.size))) hwr
 have c0 : w.cell? ⟨gl, 0, none⟩ = some (.slice (some ⟨b, 0, none⟩) n c) := qB hg rfl
 have ck : w.cell? ⟨b, k, none⟩ = some (.slice va vl vc) := qB hb hv
 have zg := qC hg
 have zb := qC hb
 have hk' : (k : Int) < n := by omega
 clear hun hwr hg hb hv
 go_enter Tryz.func13, Tryz.ntmps13
 go_wp2_with fail
 refine (HBU.out _ (qE _ _)).mono ?_
 rintro e w1 ⟨⟨ca, cl, cc, sa, sl, sc, qa, ql, qc, rfl, hob⟩, hb1⟩
 obtain ⟨hB1, hz1, xr⟩ := qS hb1
 have g0 : w1.cell? ⟨w.heap.size, 0, none⟩ = some (.slice none 0 0) := qB xr rfl
 have g1 : w1.cell? ⟨w.heap.size, 1, none⟩ = some (.slice none 0 0) := qB xr rfl
 have g2 : w1.cell? ⟨w.heap.size, 2, none⟩ = some (.slice none 0 0) := qB xr rfl
 have q0 : w1.frozen? ⟨w.heap.size, 0, none⟩ = false := qD xr
 have q1 : w1.frozen? ⟨w.heap.size, 1, none⟩ = false := qD xr
 have q2 : w1.frozen? ⟨w.heap.size, 2, none⟩ = false := qD xr
 have HB3 := Lib.hid hB1
 have HOB := Lib.hid hob
 have Z0 := Lib.hid xr
 clear hb1 hB1 hob xr HBU c0 ck
 go_wp2_with fail
 have n3 : ∀ (x y z : Option Addr) (a b c d e f : Nat) (j : Nat) (n : Int), (#[Value.slice x a b, .slice y c d, .slice z e f] : Array Value)[j]? ≠ some (.int .u8 n) := by
  intro x y z a b c d e f j n h
  rcases j with _ | _ | _ | j <;> simp at h
 have m3 : ∀ (x y z : Option Addr) (a b c d e f : Nat) (j : Nat) (n : ByteArray), (#[Value.slice x a b, .slice y c d, .slice z e f] : Array Value)[j]? ≠ some (.string n) := by
  intro x y z a b c d e f j n h
  rcases j with _ | _ | _ | j <;> simp at h
 have o1 := HOB.out.set (i := 0) (v := .slice ca cl cc) Z0.out (m3 _ _ _ _ _ _ _ _ _) (n3 _ _ _ _ _ _ _ _ _)
 have z1 := qJ (i := 0) (v := .slice ca cl cc) Z0.out
 have o2 := o1.set (i := 1) (v := .slice sa sl sc) z1 (m3 _ _ _ _ _ _ _ _ _) (n3 _ _ _ _ _ _ _ _ _)
 have z2 := qJ (i := 1) (v := .slice sa sl sc) z1
 have o3 := o2.set (i := 2) (v := .slice qa ql qc) z2 (m3 _ _ _ _ _ _ _ _ _) (n3 _ _ _ _ _ _ _ _ _)
 exact bodyPost_ret (v := .tuple #[.agg #[.slice ca cl cc, .slice sa sl sc, .slice qa ql qc], .int .i64 0]) (by simp [results, Tryz.results13, go_sem, g0, g1, g2]) rfl ⟨⟨ca, cl, cc, sa, sl, sc, qa, ql, qc, rfl, o3⟩, ((HB3.out.setCell (Nat.le_refl _) _).setCell (Nat.le_refl _) _).setCell (Nat.le_refl _) _⟩
theorem qHX (ob : Ob) (base : Int) (s : List Sy) (h0 : 0 <= base) (h1 : base <= 1048576) (h4 : base % 4 = 0) (hw : qAD qL ob = 0) (hr : ob.rels = []) (hs : Li.qAt base [] ob.syms = some s) : Li.qCl qL [ob] base = .ok (ob.code, s) := by
 have hu : Li.up4 base = base := Li.up4_of h4
 have e1 : Li.qAF qL 0 [ob] = none := by simp [Li.qAF, hw]
 have e2 : [ob].zip (Li.qm base [ob]) = [(ob, base)] := by simp [Li.qm, hu]
 have e3 : Li.layL base 0 [] [] [(ob, base)] = .ok (ob.code, s) := by
  simp [Li.layL, hs]
 have e4 : Li.relL s base 0 ob.code [(ob, base)] = .ok ob.code := by
  simp [Li.relL, hr, Li.qAg]
 unfold Li.qCl
 rw [if_neg (by omega), if_neg (by simp)]
 unfold Li.qGr
 rw [e1]
 show Li.qIR [ob] base = _
 unfold Li.qIR
 rw [e2, e3]
 show Li.qJ7 base [(ob, base)] (ob.code, s) = _
 unfold Li.qJ7
 simp only [e4]
theorem qIM (l : List In) : (qAo l).length = 2 * l.length := by
 rw [<- qCi, Si.qBl]
 simp
def qC7 : Ob := ⟨qAo qFs, [], []⟩
theorem qEt : qAD qL qC7 = 0 := by
 have h2 := qIM qFs
 unfold qAD qC7
 simp only
 rw [if_neg (by rw [h2]; simp [qFs]), if_pos (show qAR qL (qAo qFs).length [] [] = 0 from rfl)]
 rfl
theorem qLk : Li.qCl qL [qC7] 0 = .ok (qAo qFs, []) := qHX qC7 0 [] (by decide) (by decide) (by decide) qEt rfl rfl
def five4 : List Si.I4 := [⟨3, 0, 0, 5⟩, ⟨27, 0, 0, 1⟩, ⟨27, 0, 0, 0⟩]
theorem qIp : qAo qFs = Si.qAH five4 := by rw [<- qCi]; rfl
theorem five_run {m : Si.Ma} {x y : Int} {tt : Bool} (h : Si.At m five4 0 x y tt []) : Si.runE 2000 m = 0 /\ (Si.runM 2000 m).told = [5] /\ ∀ M, Si.Rch m M -> Si.ResM M := by
 obtain ⟨g1, a1⟩ := Si.go_mov0 5 h (by decide) rfl (Si.qLN 0 5 (.inl rfl) (by decide) (by decide))
 obtain ⟨g2, a2⟩ := Si.go_tell a1 (by decide) rfl
 obtain ⟨e1, e2, e3, e4⟩ := Si.at_end a2 (by decide) rfl
 have hw : Si.Walks 2 m (Si.qAU (Si.qAU m)) := .step g1 (.step g2 (.here _))
 have := hw.run (n := 1998)
 refine ⟨?_, ?_, hw.res e2 e4⟩
 ·rw [show (2000 : Nat) = 2 + 1998 from rfl, this.1]
  show (if Si.qAN _ ≠ 0 then _ else _) = _
  rw [if_neg (by rw [e1]; simp), if_pos e2]
 ·rw [show (2000 : Nat) = 2 + 1998 from rfl, this.2]
  show (if Si.qAN _ ≠ 0 then _ else if _ then _ else _ : Si.Ma).told = _
  rw [if_neg (by rw [e1]; simp), if_pos e2]
  exact e3
theorem infoOb : (Tryz.prog.info? 49).map (fun i => (i.zero, i.size, i.bytes)) = some (some (.agg #[.slice none 0 0, .slice none 0 0, .slice none 0 0]), 3, 72) := by kernel_rfl
def ObTo (ob : Ob) (W : World) (e : Ending) (w' : World) : Prop := (∃ ca cl cc sa sl sc qa ql qc, e = .returned (.tuple #[.agg #[.slice ca cl cc, .slice sa sl sc, .slice qa ql qc], .int .i64 0]) /\ qB1 w' (.slice ca cl cc) (.slice sa sl sc) (.slice qa ql qc) ob) /\ Below W.heap.size W w'
theorem take3 {cur : Array Value} {a b c : Value} (h : cur.toList.take (1 * 3) = [a, b, c]) : cur[0]? = some a /\ cur[1]? = some b /\ cur[2]? = some c := by
 have h0 := congrArg (fun l => l[0]?) h
 have h1 := congrArg (fun l => l[1]?) h
 have h2 := congrArg (fun l => l[2]?) h
 simp at h0 h1 h2
 exact ⟨h0, h1, h2⟩
theorem obs_one {w : World} {base : Nat} {v c s q : Value} {ob : Ob} (h : w.ownsRow base 49 3 v 1 [c, s, q]) (ho : qB1 w c s q ob) : Li.OObs w v [ob] := by
 rcases h.2 with ⟨_, h0⟩ | ⟨g, cap, cur, rfl, _, hg, _, _, _, htk⟩
 ·omega
 ·obtain ⟨k0, k1, k2⟩ := take3 htk
  refine ⟨_, cap, rfl, by unfold maxLen; simp, fun _ => ⟨g, 0, rfl, qC hg, fun i hi => ?_⟩⟩
  obtain rfl : i = 0 := by simpa using hi
  exact ⟨c, s, q, qB hg k0, qB hg k1, qB hg k2, ho⟩
def ImgTo (base : Int) (code : List UInt8) (sy : List Sy) (w : World) (e : Ending) (w' : World) : Prop := (∃ ba bc s0 s2, e = .returned (.tuple #[.agg #[.int .i64 base, .slice ba code.length bc, .slice s0 sy.length s2], .agg #[.int .i64 0, .int .i64 0]]) /\ qg w' (.slice ba code.length bc) code /\ qAw w' (.slice s0 sy.length s2) sy) /\ Below w.heap.size w w'
theorem qIT (W : World) (g : Nat) (ca sa qa : Option Addr) (cl cc sl sc ql qc : Nat) (hg : W.heap[g]? = some (.cells #[.slice ca cl cc, .slice sa sl sc, .slice qa ql qc] 49 (0, 0))) :
  ∃ la lc w', (∀ ty, (Builtin.append_ #[64, 64] ty #[.slice none 0 0, .slice (some ⟨g, 0, none⟩) 1 1]).run Tryz.prog W = .ok (.slice la 1 lc) w') /\ w'.ownsRow W.heap.size 49 3 (.slice la 1 lc) 1 [.slice ca cl cc, .slice sa sl sc, .slice qa ql qc] /\ Below W.heap.size W w' := by
 obtain ⟨v', w', happ, hr', hgr⟩ := app1 64 49 _ 3 72 Tryz.underlying64 infoOb rfl (by decide) (by decide) (World.ownsRow_nil W W.heap.size 49 3) (Nat.le_refl _) [.slice ca cl cc, .slice sa sl sc, .slice qa ql qc] rfl g hg (by intro u hu; simp at hu; rcases hu with rfl | rfl | rfl <;> rfl) (by decide)
 obtain ⟨la', lc', rfl⟩ := qG hr'
 exact ⟨la', lc', w', happ, hr', ⟨hgr.os, hgr.tape, hgr.output, hgr.size, fun i hi => hgr.block i hi (by simp [Value.ownBlock])⟩⟩
theorem qIn (ob : Ob) (base : Int) (code : List UInt8) (sy : List Sy) (hlk : Li.qCl qL [ob] base = .ok (code, sy)) (f gl : Nat) (w : World) (hnl : ∀ x, x ∈ ob.syms -> x.name.length <= maxLen) (hent : ∀ args w, (callFunc f args).run Tryz.prog w = .ok (.enter f args) w)
  (hob : ∀ W, Below w.heap.size w W -> Calls Tryz.prog f #[.int .i64 0, .pointer (some ⟨gl, 0, none⟩)] W (ObTo ob W)) :
  Calls Tryz.prog 12 #[.int .i64 1, .int .i64 base, .func (.func f) #[] #[.pointer (some ⟨gl, 0, none⟩)]] w (ImgTo base code sy w) := by
 have HLL := Lib.hid hlk
 clear hlk
 have HOB := Lib.hid hob
 have HNL := Lib.hid hnl
 clear hob hnl
 go_enter Tryz.func12, Tryz.ntmps12
 go_wp2_with fail
 refine wp_loop_rounds 2 ?_
 rw [rounds_succ]
 go_wp2_with fail
 have hb0 : Below w.heap.size w ((w.alloc (.cells #[.int .i64 0, .slice none 0 0, .slice none 0 0] 34)).alloc (.cells #[.int .i64 0, .int .i64 0] 36)) := by go_grown
 refine (HOB.out _ hb0).mono ?_
 rintro e w1 ⟨⟨ca, cl, cc, sa, sl, sc, qa, ql, qc, rfl, hob⟩, hb1⟩
 obtain ⟨la, lc, w2, happ, hr2, hb2⟩ := qIT ((w1.alloc (.cells #[.slice ca cl cc, .slice sa sl sc, .slice qa ql qc] 49)).alloc (.cells #[.slice ca cl cc, .slice sa sl sc, .slice qa ql qc] 49)) (w1.heap.size + 1) ca sa qa cl cc sl sc ql qc (qH _ _ (by simp))
 have hB2 : Below w1.heap.size w1 w2 := Below.trans (by go_grown) (hb2.mono (by simp; omega))
 have hOB : Li.OObs w2 (.slice la 1 lc) [ob] := obs_one hr2 ⟨hob.1.below hB2 (Nat.le_refl _), hob.2.1.below hB2 (Nat.le_refl _), hob.2.2.below hB2 (Nat.le_refl _)⟩
 have hW2 : Below w.heap.size w w2 := (hb0.trans (hb1.mono hb0.size)).trans (hB2.mono (Nat.le_trans hb0.size hb1.size))
 have HLK := Lib.hid (Li.link_any [ob] (.slice la 1 lc) base w2 hOB (fun o ho x hx => by obtain rfl := List.mem_singleton.1 ho; exact HNL.out x hx))
 have HW2 := Lib.hid hW2
 have hV2 : Below (w.heap.size + 1 + 1) ((w.alloc (.cells #[.int .i64 0, .slice none 0 0, .slice none 0 0] 34)).alloc (.cells #[.int .i64 0, .int .i64 0] 36)) w2 := by
  have := hb1.trans (hB2.mono hb1.size)
  simpa using this
 have HX0 : Hid (w2.heap[w.heap.size]? = some (.cells #[.int .i64 0, .slice none 0 0, .slice none 0 0] 34 (0, 0))) := by
  unfold Hid
  rw [hV2.block _ (by omega), old2 _ _ (by simp)]
  exact qH _ _ rfl
 have HX1 : Hid (w2.heap[w.heap.size + 1]? = some (.cells #[.int .i64 0, .int .i64 0] 36 (0, 0))) := by
  unfold Hid
  rw [hV2.block _ (by omega)]
  exact qH _ _ (by simp)
 have HA := Lib.hid happ
 clear hb0 hob hb1 happ hr2 hb2 hB2 hOB hW2 HOB HNL hV2
 go_wp2_with (first | (at_builtin; refine qQ rfl _ _ _ _ rfl _ _ rfl rfl HA.out ?_))
 rw [rounds_succ]
 go_wp2_with fail
 refine HLK.out.mono ?_
 rintro e w3 ⟨hb3, hm⟩
 rw [HLL.out] at hm
 obtain ⟨bv, sv, rfl, h1, h2⟩ := hm
 simp only at h1 h2
 obtain ⟨ba, bc, rfl, _⟩ := id h1
 obtain ⟨s0, s2, rfl, _⟩ := id h2
 have z0 := (hb3.block _ (qC HX0.out)).trans HX0.out
 have z1 := (hb3.block _ (qC HX1.out)).trans HX1.out
 have g0 : w3.cell? ⟨w.heap.size, 0, none⟩ = some (.int .i64 0) := qB z0 rfl
 have g1 : w3.cell? ⟨w.heap.size, 1, none⟩ = some (.slice none 0 0) := qB z0 rfl
 have g2 : w3.cell? ⟨w.heap.size, 2, none⟩ = some (.slice none 0 0) := qB z0 rfl
 have q0 : w3.frozen? ⟨w.heap.size, 0, none⟩ = false := qD z0
 have q1 : w3.frozen? ⟨w.heap.size, 1, none⟩ = false := qD z0
 have q2 : w3.frozen? ⟨w.heap.size, 2, none⟩ = false := qD z0
 have f0 : w3.cell? ⟨w.heap.size + 1, 0, none⟩ = some (.int .i64 0) := qB z1 rfl
 have f1 : w3.cell? ⟨w.heap.size + 1, 1, none⟩ = some (.int .i64 0) := qB z1 rfl
 have y0 : w3.frozen? ⟨w.heap.size + 1, 0, none⟩ = false := qD z1
 have y1 : w3.frozen? ⟨w.heap.size + 1, 1, none⟩ = false := qD z1
 have hz0 := qC z0
 have hz1 := qC z1
 have H1 := Lib.hid h1
 have H2 := Lib.hid h2
 have Z0 := Lib.hid z0
 have Z1 := Lib.hid z1
 have HB3 := Lib.hid (HW2.out.trans (hb3.mono HW2.out.size))
 clear hb3 h1 h2 z0 z1 HLK HX0 HX1 HLL
 go_wp2_with fail
 have n3 : ∀ (a : Int) (x y : Option Addr) (b c d e : Nat) (j : Nat) (n : Int), (#[Value.int .i64 a, .slice x b c, .slice y d e] : Array Value)[j]? ≠ some (.int .u8 n) := by
  intro a x y b c d e j n h
  rcases j with _ | _ | _ | j <;> simp at h
 have m3 : ∀ (a : Int) (x y : Option Addr) (b c d e : Nat) (j : Nat) (n : ByteArray), (#[Value.int .i64 a, .slice x b c, .slice y d e] : Array Value)[j]? ≠ some (.string n) := by
  intro a x y b c d e j n h
  rcases j with _ | _ | _ | j <;> simp at h
 have n2 : ∀ (a b : Int) (j : Nat) (n : Int), (#[Value.int .i64 a, .int .i64 b] : Array Value)[j]? ≠ some (.int .u8 n) := by
  intro a b j n h
  rcases j with _ | _ | j <;> simp at h
 have m2 : ∀ (a b : Int) (j : Nat) (n : ByteArray), (#[Value.int .i64 a, .int .i64 b] : Array Value)[j]? ≠ some (.string n) := by
  intro a b j n h
  rcases j with _ | _ | j <;> simp at h
 have t1 := qJ (i := 0) (v := .int .i64 base) Z0.out
 have t2 := qJ (i := 1) (v := .slice ba code.length bc) t1
 have t3 := qJ (i := 2) (v := .slice s0 sy.length s2) t2
 have b1 := H1.out.set (i := 0) (v := .int .i64 base) Z0.out (n3 _ _ _ _ _ _ _)
 have b2 := b1.set (i := 1) (v := .slice ba code.length bc) t1 (n3 _ _ _ _ _ _ _)
 have b3 := b2.set (i := 2) (v := .slice s0 sy.length s2) t2 (n3 _ _ _ _ _ _ _)
 have c1 := H2.out.set (i := 0) (v := .int .i64 base) Z0.out (m3 _ _ _ _ _ _ _)
 have c2 := c1.set (i := 1) (v := .slice ba code.length bc) t1 (m3 _ _ _ _ _ _ _)
 have c3 := c2.set (i := 2) (v := .slice s0 sy.length s2) t2 (m3 _ _ _ _ _ _ _)
 have u0 : (((w3.setCell ⟨w.heap.size, 0, none⟩ (.int .i64 base)).setCell ⟨w.heap.size, 1, none⟩ (.slice ba code.length bc)).setCell ⟨w.heap.size, 2, none⟩ (.slice s0 sy.length s2)).heap[w.heap.size + 1]? = some (.cells #[.int .i64 0, .int .i64 0] 36 (0, 0)) := by
  rw [Below.heap_setCell _ _ _ _ (by show w.heap.size + 1 ≠ w.heap.size; omega), Below.heap_setCell _ _ _ _ (by show w.heap.size + 1 ≠ w.heap.size; omega), Below.heap_setCell _ _ _ _ (by show w.heap.size + 1 ≠ w.heap.size; omega)]
  exact Z1.out
 have u1 := qJ (i := 0) (v := .int .i64 0) u0
 have b4 := b3.set (i := 0) (v := .int .i64 0) u0 (n2 _ _)
 have b5 := b4.set (i := 1) (v := .int .i64 0) u1 (n2 _ _)
 have c4 := c3.set (i := 0) (v := .int .i64 0) u0 (m2 _ _)
 have c5 := c4.set (i := 1) (v := .int .i64 0) u1 (m2 _ _)
 refine bodyPost_ret (v := .tuple #[.agg #[.int .i64 base, .slice ba code.length bc, .slice s0 sy.length s2], .agg #[.int .i64 0, .int .i64 0]]) (by simp [results, Tryz.results12, go_sem, g0, g1, g2, f0, f1]) rfl ⟨⟨ba, bc, s0, s2, rfl, b5, c5⟩, ?_⟩
 have hB := HB3.out
 exact ((((hB.setCell (p := ⟨w.heap.size, 0, none⟩) (Nat.le_refl _) _).setCell (p := ⟨w.heap.size, 1, none⟩) (Nat.le_refl _) _).setCell (p := ⟨w.heap.size, 2, none⟩) (Nat.le_refl _) _).setCell (p := ⟨w.heap.size + 1, 0, none⟩) (by show w.heap.size <= w.heap.size + 1; omega) _).setCell (p := ⟨w.heap.size + 1, 1, none⟩) (by show w.heap.size <= w.heap.size + 1; omega) _
theorem brd_of {w : World} {v : Value} {l : List UInt8} (h : qg w v l) : ∃ ba bc, v = .slice ba l.length bc /\ Si.BRd w ba l := by
 obtain ⟨ad, cap, rfl, _, hc⟩ := h
 refine ⟨ad, cap, rfl, fun h0 => ?_⟩
 obtain ⟨b, o, rfl, hl, hcs⟩ := hc h0
 refine ⟨b, o, rfl, hl, fun i hi => ?_⟩
 rw [hcs i hi]
 simp [Si.bsOf, List.getD, hi]
theorem mv_new {w : World} {base : Int} {l : List UInt8} {sy : List Sy} {gb gs : Nat} (h1 : w.heap[gb]? = some (.cells (Si.qA7 l).toArray 5 (0, 0))) (h2 : w.heap[gs]? = some (.cells (Si.qT sy).toArray 81 (0, 0))) :
  Si.MV w (.agg (Si.mC (Si.newM base l) (some ⟨gb, 0, none⟩) l.length (.slice (some ⟨gs, 0, none⟩) sy.length sy.length) none 0)) (Si.newM base l) sy := by
 refine ⟨_, _, _, _, _, _, rfl, fun _ => ?_, fun h0 => absurd h0 (by simp [Si.newM]), Si.qDc h2 (Si.qCY sy)⟩
 refine ⟨gb, 0, rfl, qC h1, fun i hi => ?_⟩
 rw [Nat.zero_add]
 refine qB h1 ?_
 have hi' : i < l.length := hi
 simp [Si.qA7, Si.bsOf, Si.newM, List.getD, hi']
theorem new_of (base : Int) (code : List UInt8) (sy : List Sy) (bv sv : Value) (w : World) (hB : qg w bv code) (hS : qAw w sv sy) (hl : code.length <= 1048576) (hsl : sy.length <= 1000) :
  Calls Tryz.prog 10 #[.agg #[.int .i64 base, bv, sv]] w fun e w' => ∃ v, e = .returned v /\ Below w.heap.size w w' /\ Si.MV w' v (Si.newM base code) sy := by
 obtain ⟨ba, bc, rfl, hb⟩ := brd_of hB
 obtain ⟨s0, s2, rfl, hs⟩ := Si.qAw.src hS
 refine (Si.pnew_any base code ba bc sy s0 s2 w hb hs (by omega) (by omega)).mono ?_
 rintro e w' ⟨gb, gs, rfl, hbl, _, _, h1, h2⟩
 exact ⟨_, rfl, hbl, mv_new h1 h2⟩
theorem runs_new (base : Int) (code : List UInt8) (h0 : 0 <= base) (h1 : base <= 1048576) (hl : code.length <= 1048576) : Si.Runs (Si.newM base code) 0 := by
 have z : Si.in32 0 := ⟨by decide, by decide⟩
 refine ⟨h0, h1, hl, by simp [Si.newM], fun k => z, ⟨?_, ?_⟩, ⟨show (-2147483648 : Int) <= -1 by decide, show (-1 : Int) <= 2147483647 by decide⟩, by simp [Si.newM], by simp [Si.newM]⟩
 ·show -2147483648 <= base; omega
 ·show base <= 2147483647; omega
theorem run_of (base : Int) (code : List UInt8) (sy : List Sy) (tl : List Int) (v : Value) (w : World) (hv : Si.MV w v (Si.newM base code) sy) (hL : Isa.Laid w) (h0 : 0 <= base) (h1 : base <= 1048576) (hl : code.length <= 1048576) (hsl : sy.length <= 1000)
  (hr : Si.runE 2000 (Si.newM base code) = 0 /\ (Si.runM 2000 (Si.newM base code)).told = tl /\ ∀ M, Si.Rch (Si.newM base code) M -> Si.ResM M) :
  Calls Tryz.prog 9 #[v, .int .i64 2000] w fun e w' => ∃ m ba bc s0 sl s2 ta tc, e = .returned (.tuple #[.agg (Si.mC m ba bc (.slice s0 sl s2) ta tc), .int .i64 0]) /\ m.told = tl /\ Si.TRd w' ta tl /\ Below w.heap.size w w' := by
 refine (Si.run_res (Si.newM base code) sy v 2000 w hv hL (runs_new base code h0 h1 hl) (by decide) (by omega) hr.2.2).mono ?_
 rintro e w' ⟨v', rfl, hb, h⟩
 rcases h with ⟨h, _⟩ | ⟨_, h⟩
 ·exact absurd hr.1 h
 ·obtain ⟨ba, bc, s0, s2, ta, tc, rfl, _, h3, _⟩ := h.mv
  exact ⟨_, ba, bc, s0, _, s2, ta, tc, by rw [hr.1], hr.2.1, by rw [<- hr.2.1]; exact h3, hb⟩
theorem newbox (W : World) (z c : Array Value) : Below W.heap.size W ((W.alloc (.cells z 41)).setRow W.heap.size c) /\ ((W.alloc (.cells z 41)).setRow W.heap.size c).heap[W.heap.size]? = some (.cells c 41 (0, 0)) :=
 ⟨below_setRow (qE _ _) (Nat.le_refl _) _, setRow_heap _ _ _ _ _ _ (qH W _ rfl)⟩
theorem qLH {W : World} {g : Nat} {m : Si.Ma} {ba : Option Addr} {bc : Nat} {sv : Value} {ta : Option Addr} {tc : Nat} (h : W.heap[g]? = some (.cells (Si.mC m ba bc sv ta tc) 41 (0, 0))) : W.cell? ⟨g, 22, none⟩ = some (.slice ta m.told.length tc) := qB (i := 22) h rfl
theorem at_new (l : List Si.I4) : Si.At (Si.newM 0 (Si.qAH l)) l 0 0 0 false [] := ⟨rfl, rfl, rfl, rfl, rfl, rfl, rfl⟩
theorem infoBy : (Tryz.prog.info? 31).map (fun i => (i.zero, i.size, i.bytes)) = some (some (.slice none 0 0), 1, 24) := by kernel_rfl
structure Says (S : List UInt8) (ob : Ob) (base : Int) (code : List UInt8) (sy : List Sy) (tl : List Int) (w : World) : Prop where
 un : ∀ W v, Below w.heap.size w W -> Sc.qBL W v S -> qCy v ob W
 wr : qAD qL ob = 0
 nl : ∀ x, x ∈ ob.syms -> x.name.length <= maxLen
 lk : Li.qCl qL [ob] base = .ok (code, sy)
 rn : Si.runE 2000 (Si.newM base code) = 0 /\ (Si.runM 2000 (Si.newM base code)).told = tl /\ ∀ M, Si.Rch (Si.newM base code) M -> Si.ResM M
 b0 : 0 <= base
 b1 : base <= 1048576
 cl : code.length <= 1048576
 sl : sy.length <= 1000
 ss : S.length <= 1000000
theorem qDe {w w' : World} {v : Value} {bs : List UInt8} (h : Sc.qBL w v bs) (hb : Below w.heap.size w w') : Sc.qBL w' v bs := by
 obtain ⟨ad, cap, rfl, hm, hc⟩ := h
 refine ⟨ad, cap, rfl, hm, fun h0 => ?_⟩
 obtain ⟨b, o, rfl, hlt, hcell⟩ := hc h0
 exact ⟨b, o, rfl, Nat.lt_of_lt_of_le hlt hb.size, fun i hi => by rw [hb.cell (by exact hlt)]; exact hcell i hi⟩
theorem qIh {w3 : World} {gi gf : Nat} (hne : gf ≠ gi) {base : Int} {code : List UInt8} {sy : List Sy} {ba s0 : Option Addr} {bc s2 : Nat} (Z0 : w3.heap[gi]? = some (.cells #[.int .i64 0, .slice none 0 0, .slice none 0 0] 34 (0, 0))) (Z1 : w3.heap[gf]? = some (.cells #[.int .i64 0, .int .i64 0] 36 (0, 0))) (H1 : qg w3 (.slice ba code.length bc) code) (H2 : qAw w3 (.slice s0 sy.length s2) sy) :
  qg (((((w3.setCell ⟨gi, 0, none⟩ (.int .i64 base)).setCell ⟨gi, 1, none⟩ (.slice ba code.length bc)).setCell ⟨gi, 2, none⟩ (.slice s0 sy.length s2)).setCell ⟨gf, 0, none⟩ (.int .i64 0)).setCell ⟨gf, 1, none⟩ (.int .i64 0)) (.slice ba code.length bc) code /\ qAw (((((w3.setCell ⟨gi, 0, none⟩ (.int .i64 base)).setCell ⟨gi, 1, none⟩ (.slice ba code.length bc)).setCell ⟨gi, 2, none⟩ (.slice s0 sy.length s2)).setCell ⟨gf, 0, none⟩ (.int .i64 0)).setCell ⟨gf, 1, none⟩ (.int .i64 0)) (.slice s0 sy.length s2) sy := by
 have n3 : ∀ (a : Int) (x y : Option Addr) (b c d e : Nat) (j : Nat) (n : Int), (#[Value.int .i64 a, .slice x b c, .slice y d e] : Array Value)[j]? ≠ some (.int .u8 n) := by
  intro a x y b c d e j n h
  rcases j with _ | _ | _ | j <;> simp at h
 have m3 : ∀ (a : Int) (x y : Option Addr) (b c d e : Nat) (j : Nat) (n : ByteArray), (#[Value.int .i64 a, .slice x b c, .slice y d e] : Array Value)[j]? ≠ some (.string n) := by
  intro a x y b c d e j n h
  rcases j with _ | _ | _ | j <;> simp at h
 have n2 : ∀ (a b : Int) (j : Nat) (n : Int), (#[Value.int .i64 a, .int .i64 b] : Array Value)[j]? ≠ some (.int .u8 n) := by
  intro a b j n h
  rcases j with _ | _ | j <;> simp at h
 have m2 : ∀ (a b : Int) (j : Nat) (n : ByteArray), (#[Value.int .i64 a, .int .i64 b] : Array Value)[j]? ≠ some (.string n) := by
  intro a b j n h
  rcases j with _ | _ | j <;> simp at h
 have t1 := qJ (i := 0) (v := .int .i64 base) Z0
 have t2 := qJ (i := 1) (v := .slice ba code.length bc) t1
 have b1 := H1.set (i := 0) (v := .int .i64 base) Z0 (n3 _ _ _ _ _ _ _)
 have b2 := b1.set (i := 1) (v := .slice ba code.length bc) t1 (n3 _ _ _ _ _ _ _)
 have b3 := b2.set (i := 2) (v := .slice s0 sy.length s2) t2 (n3 _ _ _ _ _ _ _)
 have c1 := H2.set (i := 0) (v := .int .i64 base) Z0 (m3 _ _ _ _ _ _ _)
 have c2 := c1.set (i := 1) (v := .slice ba code.length bc) t1 (m3 _ _ _ _ _ _ _)
 have c3 := c2.set (i := 2) (v := .slice s0 sy.length s2) t2 (m3 _ _ _ _ _ _ _)
 have u0 : (((w3.setCell ⟨gi, 0, none⟩ (.int .i64 base)).setCell ⟨gi, 1, none⟩ (.slice ba code.length bc)).setCell ⟨gi, 2, none⟩ (.slice s0 sy.length s2)).heap[gf]? = some (.cells #[.int .i64 0, .int .i64 0] 36 (0, 0)) := by
  rw [Below.heap_setCell _ _ _ _ hne, Below.heap_setCell _ _ _ _ hne, Below.heap_setCell _ _ _ _ hne]
  exact Z1
 have u1 := qJ (i := 0) (v := .int .i64 0) u0
 exact ⟨(b3.set (i := 0) (v := .int .i64 0) u0 (n2 _ _)).set (i := 1) (v := .int .i64 0) u1 (n2 _ _), (c3.set (i := 0) (v := .int .i64 0) u0 (m2 _ _)).set (i := 1) (v := .int .i64 0) u1 (m2 _ _)⟩
theorem qId {ob : Ob} (hw : qAD qL ob = 0) (hn : ∀ x, x ∈ ob.syms -> x.name.length <= maxLen) (W : World) (c s q : Value) (h : qB1 W c s q ob) : Calls Tryz.prog 24 #[.agg #[c, s, q]] W fun r w' => r = .returned (.int .i64 0) /\ Below W.heap.size W w' := by
 have := Li.qBp ob c s q W h.1 h.2.1 h.2.2 hn
 rw [hw] at this
 exact this
theorem qJ4 (S : List UInt8) (ob : Ob) (base : Int) (code : List UInt8) (sy : List Sy) (tl : List Int) (b c : Nat) (cur : Array Value) (va : Option Addr) (vl vc : Nat) (w w0 : World) (hS : Says S ob base code sy tl w0) (h0 : Below w0.heap.size w0 w) (hv : Sc.qBL w (.slice va vl vc) S) (hb : w.heap[b]? = some (.cells cur 31 (0, 0))) (hc : cur[0]? = some (.slice va vl vc)) :
  Calls Tryz.prog 8 #[.slice (some ⟨b, 0, none⟩) 1 c, .int .i64 base] w (ImgTo base code sy w) := by
 have HL : Hid (∀ W, Below w.heap.size w W -> W.heap[w.heap.size]? = some (.cells #[.slice (some ⟨b, 0, none⟩) 1 c] 30 (0, 0)) -> Calls Tryz.prog 12 #[.int .i64 1, .int .i64 base, .func (.func 13) #[] #[.pointer (some ⟨w.heap.size, 0, none⟩)]] W (ImgTo base code sy W)) := by
  intro W hW hg
  refine qIn ob base code sy hS.lk 13 w.heap.size W hS.nl qLo (fun X hX => ?_)
  have hwX : Below w.heap.size w X := hW.trans (hX.mono hW.size)
  have := qLZ w.heap.size b 1 c 0 cur va vl vc ob X ((hX.block _ (qC hg)).trans hg) ((hwX.block _ (qC hb)).trans hb) (by decide) hc (fun Y hY => hS.un Y _ (h0.trans ((hwX.trans (hY.mono hwX.size)).mono h0.size)) (qDe hv (hwX.trans (hY.mono hwX.size)))) (fun Y c s q h => qId hS.wr hS.nl Y c s q h)
  exact this
 have zb := qC hb
 clear hS h0 hv hb hc
 go_enter Tryz.func8, Tryz.ntmps8
 go_wp2_with fail
 have hb0 : Below w.heap.size w (((w.alloc (.cells #[.slice (some ⟨b, 0, none⟩) 1 c] 30)).alloc (.cells #[.int .i64 0, .slice none 0 0, .slice none 0 0] 34)).alloc (.cells #[.int .i64 0, .int .i64 0] 36)) := by go_grown
 refine (HL.out _ hb0 (by rw [old2 _ _ (by go_size), old2 _ _ (by simp)]; exact qH _ _ rfl)).mono ?_
 rintro e w3 ⟨⟨ba, bc, s0, s2, rfl, h1, h2⟩, hb3⟩
 have z0 : w3.heap[w.heap.size + 1]? = some (.cells #[.int .i64 0, .slice none 0 0, .slice none 0 0] 34 (0, 0)) := by
  rw [hb3.block _ (by simp), old2 _ _ (by simp)]
  exact qH _ _ (by simp)
 have z1 : w3.heap[w.heap.size + 1 + 1]? = some (.cells #[.int .i64 0, .int .i64 0] 36 (0, 0)) := by
  rw [hb3.block _ (by simp)]
  exact qH _ _ (by simp)
 have g0 : w3.cell? ⟨w.heap.size + 1, 0, none⟩ = some (.int .i64 0) := qB z0 rfl
 have g1 : w3.cell? ⟨w.heap.size + 1, 1, none⟩ = some (.slice none 0 0) := qB z0 rfl
 have g2 : w3.cell? ⟨w.heap.size + 1, 2, none⟩ = some (.slice none 0 0) := qB z0 rfl
 have q0 : w3.frozen? ⟨w.heap.size + 1, 0, none⟩ = false := qD z0
 have q1 : w3.frozen? ⟨w.heap.size + 1, 1, none⟩ = false := qD z0
 have q2 : w3.frozen? ⟨w.heap.size + 1, 2, none⟩ = false := qD z0
 have f0 : w3.cell? ⟨w.heap.size + 1 + 1, 0, none⟩ = some (.int .i64 0) := qB z1 rfl
 have f1 : w3.cell? ⟨w.heap.size + 1 + 1, 1, none⟩ = some (.int .i64 0) := qB z1 rfl
 have y0 : w3.frozen? ⟨w.heap.size + 1 + 1, 0, none⟩ = false := qD z1
 have y1 : w3.frozen? ⟨w.heap.size + 1 + 1, 1, none⟩ = false := qD z1
 have hz0 := qC z0
 have hz1 := qC z1
 have HS := Lib.hid (qIh (gi := w.heap.size + 1) (gf := w.heap.size + 1 + 1) (by omega) (base := base) z0 z1 h1 h2)
 have HB3 := Lib.hid (hb0.trans (hb3.mono hb0.size))
 clear hb3 h1 h2 z0 z1 hb0 HL
 go_wp2_with fail
 refine bodyPost_ret (v := .tuple #[.agg #[.int .i64 base, .slice ba code.length bc, .slice s0 sy.length s2], .agg #[.int .i64 0, .int .i64 0]]) (by simp [results, Tryz.results8, go_sem, g0, g1, g2, f0, f1]) rfl ⟨⟨ba, bc, s0, s2, rfl, HS.out.1, HS.out.2⟩, ?_⟩
 have hB := HB3.out
 exact ((((hB.setCell (p := ⟨w.heap.size + 1, 0, none⟩) (by show w.heap.size <= w.heap.size + 1; omega) _).setCell (p := ⟨w.heap.size + 1, 1, none⟩) (by show w.heap.size <= w.heap.size + 1; omega) _).setCell (p := ⟨w.heap.size + 1, 2, none⟩) (by show w.heap.size <= w.heap.size + 1; omega) _).setCell (p := ⟨w.heap.size + 1 + 1, 0, none⟩) (by show w.heap.size <= w.heap.size + 1 + 1; omega) _).setCell (p := ⟨w.heap.size + 1 + 1, 1, none⟩) (by show w.heap.size <= w.heap.size + 1 + 1; omega) _
theorem qI4 (W : World) (g : Nat) (ca : Option Addr) (cl cc : Nat) (hg : W.heap[g]? = some (.cells #[.slice ca cl cc] 31 (0, 0))) :
  ∃ b lc cur w', (∀ ty, (Builtin.append_ #[30, 30] ty #[.slice none 0 0, .slice (some ⟨g, 0, none⟩) 1 1]).run Tryz.prog W = .ok (.slice (some ⟨b, 0, none⟩) 1 lc) w') /\ w'.heap[b]? = some (.cells cur 31 (0, 0)) /\ cur[0]? = some (.slice ca cl cc) /\ Below W.heap.size W w' := by
 obtain ⟨v', w', happ, hr', hgr⟩ := app1 30 31 _ 1 24 Tryz.underlying30 infoBy rfl (by decide) (by decide) (World.ownsRow_nil W W.heap.size 31 1) (Nat.le_refl _) [.slice ca cl cc] rfl g hg (by intro u hu; simp at hu; subst hu; rfl) (by decide)
 rcases hr'.2 with ⟨_, h0⟩ | ⟨b, cap, cur, rfl, _, hb, _, _, _, htk⟩
 ·omega
 ·refine ⟨b, cap, cur, w', happ, hb, ?_, ⟨hgr.os, hgr.tape, hgr.output, hgr.size, fun i hi => hgr.block i hi (by simp [Value.ownBlock])⟩⟩
  have h0 := congrArg (fun l => l[0]?) htk
  simpa using h0
theorem qFD (S : List UInt8) (ob : Ob) (base : Int) (code : List UInt8) (sy : List Sy) (tl : List Int) (lb lc : Nat) (w : World) (hS : Says S ob base code sy tl w) (hL : Isa.Laid w) (hs : w.heap[lb]? = some (.cells #[.string ⟨S.toArray⟩] 9 (0, 0))) :
  Calls Tryz.prog 6 #[.int .i64 base, .slice (some ⟨lb, 0, none⟩) 1 lc] w fun e w' => (∃ ta tc, e = .returned (.tuple #[.slice ta tl.length tc, .int .i64 0]) /\ Si.TRd w' ta tl) /\ Below w.heap.size w w' := by
 have hcv := fun W => Lib.run_convert_string_bytes (P := Tryz.prog) W 9 31 5 ⟨S.toArray⟩ Tryz.underlying9 Tryz.underlying31 Tryz.underlying5
 have hbW : Below w.heap.size w (Lib.bytesWorld w 5 ⟨S.toArray⟩) := Lib.bytesWorld_below _ _ _
 have hbr : Sc.qBL (Lib.bytesWorld w 5 ⟨S.toArray⟩) (.slice (some ⟨w.heap.size, 0, none⟩) S.length (grownCap w S.length 0 5)) S := by
  refine ⟨_, _, rfl, by have := hS.ss; unfold maxLen; omega, fun _ => ⟨_, _, rfl, by rw [Lib.bytesWorld_size]; omega, fun i hi => ?_⟩⟩
  rw [Nat.zero_add, Lib.bytesWorld_cell _ _ _ _ (by simpa [ByteArray.size] using hi)]
  simp [List.getD, hi]
 obtain ⟨b, blc, cur, w2, happ, hbk, hcur, hb2⟩ := qI4 ((Lib.bytesWorld w 5 ⟨S.toArray⟩).alloc (.cells #[.slice (some ⟨w.heap.size, 0, none⟩) S.length (grownCap w S.length 0 5)] 31)) (Lib.bytesWorld w 5 ⟨S.toArray⟩).heap.size (some ⟨w.heap.size, 0, none⟩) S.length (grownCap w S.length 0 5) (qH _ _ rfl)
 have hbW2 : Below (Lib.bytesWorld w 5 ⟨S.toArray⟩).heap.size (Lib.bytesWorld w 5 ⟨S.toArray⟩) w2 := (qE _ _).trans (hb2.mono (by simp))
 have hB2 : Below w.heap.size w w2 := hbW.trans (hbW2.mono hbW.size)
 have HBU := Lib.hid (qJ4 S ob base code sy tl b blc cur (some ⟨w.heap.size, 0, none⟩) S.length (grownCap w S.length 0 5) w2 w hS hB2 (qDe hbr hbW2) hbk hcur)
 have HS := Lib.hid hS
 have HL := Lib.hid hL
 have HB2 := Lib.hid hB2
 have HA := Lib.hid happ
 have k0 : w.cell? ⟨lb, 0, none⟩ = some (.string ⟨S.toArray⟩) := qB hs rfl
 have zl := qC hs
 clear hS hL hs happ hbk hcur hb2 hbW2 hB2 hbr hbW
 go_enter Tryz.func6, Tryz.ntmps6
 go_wp2_with fail
 refine wp_loop_rounds 2 ?_
 rw [rounds_succ]
 go_wp2_with (first | (at_builtin; refine qQ rfl _ _ _ _ rfl _ _ rfl rfl HA.out ?_))
 clear hcv k0 HA
 rw [rounds_succ]
 go_wp2_with fail
 refine HBU.out.mono ?_
 rintro e w3 ⟨⟨ba, bc, s0, s2, rfl, h1, h2⟩, hb3⟩
 have HNW : Hid (∀ W, Below w3.heap.size w3 W -> Calls Tryz.prog 10 #[.agg #[.int .i64 base, .slice ba code.length bc, .slice s0 sy.length s2]] W fun e w' => ∃ v, e = .returned v /\ Below W.heap.size W w' /\ Si.MV w' v (Si.newM base code) sy) := fun W hW => new_of base code sy _ _ W (h1.below hW (Nat.le_refl _)) (h2.below hW (Nat.le_refl _)) HS.out.cl HS.out.sl
 have HB3 := Lib.hid (HB2.out.trans (hb3.mono HB2.out.size))
 have HRN : Hid (∀ W v, Below w3.heap.size w3 W -> Si.MV W v (Si.newM base code) sy -> Calls Tryz.prog 9 #[v, .int .i64 2000] W fun e w' => ∃ m ba bc s0 sl s2 ta tc, e = .returned (.tuple #[.agg (Si.mC m ba bc (.slice s0 sl s2) ta tc), .int .i64 0]) /\ m.told = tl /\ Si.TRd w' ta tl /\ Below W.heap.size W w') := fun W v hW hv => run_of base code sy tl v W hv (HL.out.below (HB3.out.trans (hW.mono HB3.out.size)) HL.out.sz) HS.out.b0 HS.out.b1 HS.out.cl HS.out.sl HS.out.rn
 clear h1 h2 hb3 HBU
 go_wp2_with fail
 have hb4 : Below w3.heap.size w3 ((w3.alloc (.cells #[.int .i64 base, .slice ba code.length bc, .slice s0 sy.length s2] 34)).alloc (.cells #[.int .i64 0, .int .i64 0] 36)) := by go_grown
 refine (HNW.out _ hb4).mono ?_
 rintro e w5 ⟨v, rfl, hb5, hmv⟩
 have hB5 : Below w3.heap.size w3 w5 := hb4.trans (hb5.mono hb4.size)
 have HR := Lib.hid (HRN.out w5 v hB5 hmv)
 have HB5 := Lib.hid (HB3.out.trans (hB5.mono HB3.out.size))
 clear hb4 hb5 hB5 hmv HNW HRN
 go_wp2_with fail
 refine HR.out.mono ?_
 rintro e w6 ⟨m, ba', bc', s0', sl', s2', ta, tc, rfl, htl, htr, hb6⟩
 have HTR := Lib.hid htr
 have HB6 := Lib.hid (HB5.out.trans (hb6.mono HB5.out.size))
 have HTL := Lib.hid htl
 have HN := Lib.hid (qH w6 (.cells #[.int .i64 0, .int .i64 0, .int .i64 0, .int .i64 0, .int .i64 0, .int .i64 0, .int .i64 0, .int .i64 0, .int .i64 0, .int .i64 0, .int .i64 0, .int .i64 0, .int .i64 0, .int .i64 0, .int .i64 0, .int .i64 0, .bool false, .int .i64 0, .int .i64 0, .int .i64 0, .slice none 0 0, .slice none 0 0, .slice none 0 0, .int .i64 0] 41) rfl)
 clear hb6 htr htl HR
 go_wp2_with (first | (refine wpList_store_row rfl 41 _ _ rfl w6.heap.size (Si.mC m ba' bc' (.slice s0' sl' s2') ta tc) rfl rfl 41 #[.int .i64 0, .int .i64 0, .int .i64 0, .int .i64 0, .int .i64 0, .int .i64 0, .int .i64 0, .int .i64 0, .int .i64 0, .int .i64 0, .int .i64 0, .int .i64 0, .int .i64 0, .int .i64 0, .int .i64 0, .int .i64 0, .bool false, .int .i64 0, .int .i64 0, .int .i64 0, .slice none 0 0, .slice none 0 0, .slice none 0 0, .int .i64 0] HN.out (Si.qBg _ _ _ _ _ _) rfl (Si.mAll _ _ _ _ _ _ _ _) ?_; obtain ⟨hbx, hqx⟩ := newbox w6 #[.int .i64 0, .int .i64 0, .int .i64 0, .int .i64 0, .int .i64 0, .int .i64 0, .int .i64 0, .int .i64 0, .int .i64 0, .int .i64 0, .int .i64 0, .int .i64 0, .int .i64 0, .int .i64 0, .int .i64 0, .int .i64 0, .bool false, .int .i64 0, .int .i64 0, .int .i64 0, .slice none 0 0, .slice none 0 0, .slice none 0 0, .int .i64 0] (Si.mC m ba' bc' (.slice s0' sl' s2') ta tc); generalize World.setRow _ w6.heap.size _ = X at hbx hqx ⊢; have HTX := Lib.hid (HTR.out.next hbx); have HBX := Lib.hid (HB6.out.trans (hbx.mono HB6.out.size)); have hc := qLH hqx; rw [HTL.out] at hc; have hzx := qC hqx; clear hbx hqx HN))
 go_ret2
 exact ⟨⟨ta, tc, rfl, HTX.out⟩, HBX.out⟩
end Go.Proofs.YtgjmbjahgcndnaaGreatDoor
namespace Go.Proofs.YtgjmbjahgcndnaaGreatDoor
open Go.RowKit Go.Maps Go.MapKept
theorem toks_S (nm : List UInt8) (a op : Int) : (Ins.mk nm [opS a, .reg r0'] op).toks = wd nm :: sg 35 :: ((numT a ++ endT).map tkOf) := by
 unfold Ins.toks opS numT
 split <;> rfl
theorem qFa : ∀ (l : List Int) (k : Nat), (qA5 k (l.map qD3)).map lnOf = (addK k l).map fun a => (a.1, a.2.toks)
 | [], k => rfl
 | n :: l, k => by
   have ih := qFa l (k + 1)
   have e := toks_S [97, 100, 100] n 4
   simp only [List.map_cons, qA5, addK, lnOf, qAx, Lk.toks, e]
   rw [ih]
   rfl
theorem adsN_eq (l : List Int) : (srcN (qBw l)).map lnOf = (qBI 1 l).map fun a => (a.1, a.2.toks) := by
 have h1 : (qBw l).map (·.2) = qBj :: (l.map qD3 ++ [tr1T, tr0T]) := by simp [qBw]
 rw [srcN, h1, qA5, List.map_cons, qKL, List.map_append, qFa, List.length_map, qBI, List.map_cons, List.map_append, show (1 + 2 + l.length : Nat) = 1 + 1 + l.length + 1 by omega]
 rfl
theorem qHu (L : List (List UInt8 × List Sc.Tok)) : (srcN L).length = L.length := by rw [srcN, qFQ, List.length_map]
theorem qJz (l : List Int) : (qBw l).length = l.length + 3 := by simp [qBw]
end Go.Proofs.YtgjmbjahgcndnaaGreatDoor
namespace Go.Proofs.YtgjmbjahgcndnaaGreatDoor
open Go.RowKit
theorem mac_same (l : List Int) : (macI l).map in4 = Si.mac4 l := by
 simp only [macI, Si.mac4, List.map_cons, List.map_append, List.map_nil, List.map_map, in4]
 rfl
theorem qKP (l : List Int) : qAo (macI l) = Si.qAH (Si.mac4 l) := by rw [<- mac_same, qCi]
theorem qHp (l : List Int) : (macI l).length = l.length + 3 := by simp [macI]
theorem qFY (l : List Int) (hl : l.length <= 12) : qAD qL (qCT l) = 0 := by
 have h2 := qDA (macI l)
 have h3 := qHp l
 unfold qAD qCT
 simp only
 rw [if_neg (by rw [h2, h3]; simp; omega), if_pos (show qAR qL (qAo (macI l)).length [] [] = 0 from rfl)]
 rfl
theorem link_mac (l : List Int) (hl : l.length <= 12) : Li.qCl qL [qCT l] 0 = .ok (qAo (macI l), []) := qHX (qCT l) 0 [] (by decide) (by decide) (by decide) (qFY l hl) rfl rfl
theorem qHn (S : List UInt8) (l : List Int) (hl : l.length <= 12) (h : ∀ n, n ∈ l -> -100 <= n /\ n <= 100) (w : World) (hun : ∀ W v, Below w.heap.size w W -> Sc.qBL W v S -> qCy v (qCT l) W) (hS : S.length <= 1000000) : Says S (qCT l) 0 (qAo (macI l)) [] [Si.qA4 l] w := by
 refine ⟨hun, qFY l hl, fun x hx => by simp [qCT] at hx, link_mac l hl, ?_, by decide, by decide, by rw [qDA, qHp]; omega, by simp, hS⟩
 rw [qKP]
 exact Si.mac_run l hl h
theorem qLt : (⟨qG0.toArray⟩ : ByteArray) = ⟨#[109, 111, 118, 32, 35, 53, 44, 114, 48, 10, 116, 114, 97, 112, 97, 32, 35, 49, 10, 116, 114, 97, 112, 97, 32, 35, 48, 10]⟩ := rfl
end Go.Proofs.YtgjmbjahgcndnaaGreatDoor
