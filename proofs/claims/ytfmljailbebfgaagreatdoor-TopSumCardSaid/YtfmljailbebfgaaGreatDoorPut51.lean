import Derived.Test.YtfmljailbebfgaaGreatDoorPut27
import Derived.Test.YtfmljailbebfgaaGreatDoorPut50
set_option maxHeartbeats 8000000
set_option maxRecDepth 100000
namespace Go.Proofs.YtfmljailbebfgaaGreatDoor
open Go.RowKit
def in4 (k : In) : Si.I4 := ⟨k.op, k.n, k.m, k.imm⟩
theorem qDK : ∀ l : List In, Si.qAR (l.map in4) = qB3 l
 | [] => rfl
 | a :: l => by
   have := qDK l
   simp only [Si.qAR, qB3, List.map_cons, List.flatMap_cons] at this ⊢
   rw [this]
   rfl
theorem qKa (args : Array Value) (w : World) : (callFunc 15 args).run Tryz.prog w = .ok (.enter 15 args) w := by kernel_rfl
theorem qLk (gl b n c k : Nat) (cur : Array Value) (va : Option Addr) (vl vc : Nat) (ob : Ob) (w : World) (hg : w.heap[gl]? = some (.cells #[.slice (some ⟨b, 0, none⟩) n c] 32 (0, 0))) (hb : w.heap[b]? = some (.cells cur 33 (0, 0))) (hk : k < n) (hv : cur[k]? = some (.slice va vl vc)) (hun : ∀ W, Below w.heap.size w W -> qKR (.slice va vl vc) ob W) (hwr : ∀ W c s q, qBl W c s q ob -> Calls Tryz.prog 26 #[.agg #[c, s, q]] W fun r w' => r = .returned (.int .i64 0) /\ Below W.heap.size W w') :
  Calls Tryz.prog 15 #[.int .i64 (k : Int), .pointer (some ⟨gl, 0, none⟩)] w fun e w' => (∃ ca cl cc sa sl sc qa ql qc, e = .returned (.tuple #[.agg #[.slice ca cl cc, .slice sa sl sc, .slice qa ql qc], .int .i64 0]) /\ qBl w' (.slice ca cl cc) (.slice sa sl sc) (.slice qa ql qc) ob) /\ Below w.heap.size w w' := by
 have HBU := Lib.hid fun W (hb : Below w.heap.size w W) => built_ok va vl vc ob W (fun X hX => hun X (hb.trans (hX.mono hb.size))) hwr
 have c0 : w.cell? ⟨gl, 0, none⟩ = some (.slice (some ⟨b, 0, none⟩) n c) := qB hg rfl
 have ck : w.cell? ⟨b, k, none⟩ = some (.slice va vl vc) := qB hb hv
 have zg := qC hg
 have zb := qC hb
 have hk' : (k : Int) < n := by omega
 clear hun hwr hg hb hv
 go_enter Tryz.func15, Tryz.ntmps15
 go_wp2_with fail
 refine (HBU.out _ (qD _ _)).mono ?_
 rintro e w1 ⟨⟨ca, cl, cc, sa, sl, sc, qa, ql, qc, rfl, hob⟩, hb1⟩
 obtain ⟨hB1, hz1, xr⟩ := qd hb1
 have g0 : w1.cell? ⟨w.heap.size, 0, none⟩ = some (.slice none 0 0) := qB xr rfl
 have g1 : w1.cell? ⟨w.heap.size, 1, none⟩ = some (.slice none 0 0) := qB xr rfl
 have g2 : w1.cell? ⟨w.heap.size, 2, none⟩ = some (.slice none 0 0) := qB xr rfl
 have q0 : w1.frozen? ⟨w.heap.size, 0, none⟩ = false := qE xr
 have q1 : w1.frozen? ⟨w.heap.size, 1, none⟩ = false := qE xr
 have q2 : w1.frozen? ⟨w.heap.size, 2, none⟩ = false := qE xr
 have HB3 := Lib.hid hB1
 have HOB := Lib.hid hob
 have Z0 := Lib.hid xr
 clear hb1 hB1 hob xr HBU c0 ck
 go_wp2_with fail
 have n3 : ∀ (x y z : Option Addr) (a b c d e f : Nat) (j : Nat) (n : Int), (#[Value.slice x a b, .slice y c d, .slice z e f] : Array Value)[j]? ≠ some (.int .u8 n) := by
  intro x y z a b c d e f j n h
  rcases j with _ | _ | _ | j <;> simp at h
 have m3 : ∀ (x y z : Option Addr) (a b c d e f : Nat) (j : Nat) (n : ByteArray), (#[Value.slice x a b, .slice y c d, .slice z e f] : Array Value)[j]? ≠ some (.string n) := by
  intro x y z a b c d e f j n h
  rcases j with _ | _ | _ | j <;> simp at h
 have o1 := HOB.out.set (i := 0) (v := .slice ca cl cc) Z0.out (m3 _ _ _ _ _ _ _ _ _) (n3 _ _ _ _ _ _ _ _ _)
 have z1 := qQ (i := 0) (v := .slice ca cl cc) Z0.out
 have o2 := o1.set (i := 1) (v := .slice sa sl sc) z1 (m3 _ _ _ _ _ _ _ _ _) (n3 _ _ _ _ _ _ _ _ _)
 have z2 := qQ (i := 1) (v := .slice sa sl sc) z1
 have o3 := o2.set (i := 2) (v := .slice qa ql qc) z2 (m3 _ _ _ _ _ _ _ _ _) (n3 _ _ _ _ _ _ _ _ _)
 exact bodyPost_ret (v := .tuple #[.agg #[.slice ca cl cc, .slice sa sl sc, .slice qa ql qc], .int .i64 0]) (by simp [results, Tryz.results15, go_sem, g0, g1, g2]) rfl ⟨⟨ca, cl, cc, sa, sl, sc, qa, ql, qc, rfl, o3⟩, ((HB3.out.setCell (Nat.le_refl _) _).setCell (Nat.le_refl _) _).setCell (Nat.le_refl _) _⟩
theorem link_one (ob : Ob) (base : Int) (s : List Sy) (h0 : 0 <= base) (h1 : base <= 1048576) (h4 : base % 4 = 0) (hw : qAK qO ob = 0) (hr : ob.rels = []) (hs : Li.qAk base [] ob.syms = some s) : Li.qCZ qO [ob] base = .ok (ob.code, s) := by
 have hu : Li.up4 base = base := Li.up4_of h4
 have e1 : Li.qAE qO 0 [ob] = none := by simp [Li.qAE, hw]
 have e2 : [ob].zip (Li.qp base [ob]) = [(ob, base)] := by simp [Li.qp, hu]
 have e3 : Li.layL base 0 [] [] [(ob, base)] = .ok (ob.code, s) := by
  simp [Li.layL, hs]
 have e4 : Li.relL s base 0 ob.code [(ob, base)] = .ok ob.code := by
  simp [Li.relL, hr, Li.qAV]
 unfold Li.qCZ
 rw [if_neg (by omega), if_neg (by simp)]
 unfold Li.qGY
 rw [e1]
 show Li.qF8 [ob] base = _
 unfold Li.qF8
 rw [e2, e3]
 show Li.qHV base [(ob, base)] (ob.code, s) = _
 unfold Li.qHV
 simp only [e4]
theorem qIE (l : List In) : (qB3 l).length = 2 * l.length := by
 rw [<- qDK, Si.qBV]
 simp
def qD6 : Ob := ⟨qB3 qFa, [], []⟩
theorem qFJ : qAK qO qD6 = 0 := by
 have h2 := qIE qFa
 unfold qAK qD6
 simp only
 rw [if_neg (by rw [h2]; simp [qFa]), if_pos (show qAQ qO (qB3 qFa).length [] [] = 0 from rfl)]
 rfl
theorem qLs : Li.qCZ qO [qD6] 0 = .ok (qB3 qFa, []) := link_one qD6 0 [] (by decide) (by decide) (by decide) qFJ rfl rfl
def five4 : List Si.I4 := [⟨3, 0, 0, 5⟩, ⟨27, 0, 0, 1⟩, ⟨27, 0, 0, 0⟩]
theorem qJJ : qB3 qFa = Si.qAR five4 := by rw [<- qDK]; rfl
theorem five_run {m : Si.Ma} {x y : Int} {tt : Bool} (h : Si.At m five4 0 x y tt []) : Si.runE 2000 m = 0 /\ (Si.runM 2000 m).told = [5] /\ ∀ M, Si.Rch m M -> Si.ResM M := by
 obtain ⟨g1, a1⟩ := Si.go_mov0 5 h (by decide) rfl (Si.qIG 0 5 (.inl rfl) (by decide) (by decide))
 obtain ⟨g2, a2⟩ := Si.go_tell a1 (by decide) rfl
 obtain ⟨e1, e2, e3, e4⟩ := Si.at_end a2 (by decide) rfl
 have hw : Si.Walks 2 m (Si.qAJ (Si.qAJ m)) := .step g1 (.step g2 (.here _))
 have := hw.run (n := 1998)
 refine ⟨?_, ?_, hw.res e2 e4⟩
 ·rw [show (2000 : Nat) = 2 + 1998 from rfl, this.1]
  show (if Si.qAH _ ≠ 0 then _ else _) = _
  rw [if_neg (by rw [e1]; simp), if_pos e2]
 ·rw [show (2000 : Nat) = 2 + 1998 from rfl, this.2]
  show (if Si.qAH _ ≠ 0 then _ else if _ then _ else _ : Si.Ma).told = _
  rw [if_neg (by rw [e1]; simp), if_pos e2]
  exact e3
theorem infoOb : (Tryz.prog.info? 51).map (fun i => (i.zero, i.size, i.bytes)) = some (some (.agg #[.slice none 0 0, .slice none 0 0, .slice none 0 0]), 3, 72) := by kernel_rfl
def ObTo (ob : Ob) (W : World) (e : Ending) (w' : World) : Prop := (∃ ca cl cc sa sl sc qa ql qc, e = .returned (.tuple #[.agg #[.slice ca cl cc, .slice sa sl sc, .slice qa ql qc], .int .i64 0]) /\ qBl w' (.slice ca cl cc) (.slice sa sl sc) (.slice qa ql qc) ob) /\ Below W.heap.size W w'
theorem take3 {cur : Array Value} {a b c : Value} (h : cur.toList.take (1 * 3) = [a, b, c]) : cur[0]? = some a /\ cur[1]? = some b /\ cur[2]? = some c := by
 have h0 := congrArg (fun l => l[0]?) h
 have h1 := congrArg (fun l => l[1]?) h
 have h2 := congrArg (fun l => l[2]?) h
 simp at h0 h1 h2
 exact ⟨h0, h1, h2⟩
theorem obs_one {w : World} {base : Nat} {v c s q : Value} {ob : Ob} (h : w.ownsRow base 51 3 v 1 [c, s, q]) (ho : qBl w c s q ob) : Li.OObs w v [ob] := by
 rcases h.2 with ⟨_, h0⟩ | ⟨g, cap, cur, rfl, _, hg, _, _, _, htk⟩
 ·omega
 ·obtain ⟨k0, k1, k2⟩ := take3 htk
  refine ⟨_, cap, rfl, by unfold maxLen; simp, fun _ => ⟨g, 0, rfl, qC hg, fun i hi => ?_⟩⟩
  obtain rfl : i = 0 := by simpa using hi
  exact ⟨c, s, q, qB hg k0, qB hg k1, qB hg k2, ho⟩
def ImgTo (base : Int) (code : List UInt8) (sy : List Sy) (w : World) (e : Ending) (w' : World) : Prop := (∃ ba bc s0 s2, e = .returned (.tuple #[.agg #[.int .i64 base, .slice ba code.length bc, .slice s0 sy.length s2], .agg #[.int .i64 0, .int .i64 0]]) /\ qh w' (.slice ba code.length bc) code /\ qAu w' (.slice s0 sy.length s2) sy) /\ Below w.heap.size w w'
theorem qJH (W : World) (g : Nat) (ca sa qa : Option Addr) (cl cc sl sc ql qc : Nat) (hg : W.heap[g]? = some (.cells #[.slice ca cl cc, .slice sa sl sc, .slice qa ql qc] 51 (0, 0))) :
  ∃ la lc w', (∀ ty, (Builtin.append_ #[66, 66] ty #[.slice none 0 0, .slice (some ⟨g, 0, none⟩) 1 1]).run Tryz.prog W = .ok (.slice la 1 lc) w') /\ w'.ownsRow W.heap.size 51 3 (.slice la 1 lc) 1 [.slice ca cl cc, .slice sa sl sc, .slice qa ql qc] /\ Below W.heap.size W w' := by
 obtain ⟨v', w', happ, hr', hgr⟩ := app1 66 51 _ 3 72 Tryz.underlying66 infoOb rfl (by decide) (by decide) (World.ownsRow_nil W W.heap.size 51 3) (Nat.le_refl _) [.slice ca cl cc, .slice sa sl sc, .slice qa ql qc] rfl g hg (by intro u hu; simp at hu; rcases hu with rfl | rfl | rfl <;> rfl) (by decide)
 obtain ⟨la', lc', rfl⟩ := qG hr'
 exact ⟨la', lc', w', happ, hr', ⟨hgr.os, hgr.tape, hgr.output, hgr.size, fun i hi => hgr.block i hi (by simp [Value.ownBlock])⟩⟩
theorem qJy (ob : Ob) (base : Int) (code : List UInt8) (sy : List Sy) (hlk : Li.qCZ qO [ob] base = .ok (code, sy)) (f gl : Nat) (w : World) (hnl : ∀ x, x ∈ ob.syms -> x.name.length <= maxLen) (hent : ∀ args w, (callFunc f args).run Tryz.prog w = .ok (.enter f args) w)
  (hob : ∀ W, Below w.heap.size w W -> Calls Tryz.prog f #[.int .i64 0, .pointer (some ⟨gl, 0, none⟩)] W (ObTo ob W)) :
  Calls Tryz.prog 14 #[.int .i64 1, .int .i64 base, .func (.func f) #[] #[.pointer (some ⟨gl, 0, none⟩)]] w (ImgTo base code sy w) := by
 have HLL := Lib.hid hlk
 clear hlk
 have HOB := Lib.hid hob
 have HNL := Lib.hid hnl
 clear hob hnl
 go_enter Tryz.func14, Tryz.ntmps14
 go_wp2_with fail
 refine wp_loop_rounds 2 ?_
 rw [rounds_succ]
 go_wp2_with fail
 have hb0 : Below w.heap.size w ((w.alloc (.cells #[.int .i64 0, .slice none 0 0, .slice none 0 0] 36)).alloc (.cells #[.int .i64 0, .int .i64 0] 38)) := by go_grown
 refine (HOB.out _ hb0).mono ?_
 rintro e w1 ⟨⟨ca, cl, cc, sa, sl, sc, qa, ql, qc, rfl, hob⟩, hb1⟩
 obtain ⟨la, lc, w2, happ, hr2, hb2⟩ := qJH ((w1.alloc (.cells #[.slice ca cl cc, .slice sa sl sc, .slice qa ql qc] 51)).alloc (.cells #[.slice ca cl cc, .slice sa sl sc, .slice qa ql qc] 51)) (w1.heap.size + 1) ca sa qa cl cc sl sc ql qc (qI _ _ (by simp))
 have hB2 : Below w1.heap.size w1 w2 := Below.trans (by go_grown) (hb2.mono (by simp; omega))
 have hOB : Li.OObs w2 (.slice la 1 lc) [ob] := obs_one hr2 ⟨hob.1.below hB2 (Nat.le_refl _), hob.2.1.below hB2 (Nat.le_refl _), hob.2.2.below hB2 (Nat.le_refl _)⟩
 have hW2 : Below w.heap.size w w2 := (hb0.trans (hb1.mono hb0.size)).trans (hB2.mono (Nat.le_trans hb0.size hb1.size))
 have HLK := Lib.hid (Li.link_any [ob] (.slice la 1 lc) base w2 hOB (fun o ho x hx => by obtain rfl := List.mem_singleton.1 ho; exact HNL.out x hx))
 have HW2 := Lib.hid hW2
 have hV2 : Below (w.heap.size + 1 + 1) ((w.alloc (.cells #[.int .i64 0, .slice none 0 0, .slice none 0 0] 36)).alloc (.cells #[.int .i64 0, .int .i64 0] 38)) w2 := by
  have := hb1.trans (hB2.mono hb1.size)
  simpa using this
 have HX0 : Hid (w2.heap[w.heap.size]? = some (.cells #[.int .i64 0, .slice none 0 0, .slice none 0 0] 36 (0, 0))) := by
  unfold Hid
  rw [hV2.block _ (by omega), old2 _ _ (by simp)]
  exact qI _ _ rfl
 have HX1 : Hid (w2.heap[w.heap.size + 1]? = some (.cells #[.int .i64 0, .int .i64 0] 38 (0, 0))) := by
  unfold Hid
  rw [hV2.block _ (by omega)]
  exact qI _ _ (by simp)
 have HA := Lib.hid happ
 clear hb0 hob hb1 happ hr2 hb2 hB2 hOB hW2 HOB HNL hV2
 go_wp2_with (first | (at_builtin; refine qAI rfl _ _ _ _ rfl _ _ rfl rfl HA.out ?_))
 rw [rounds_succ]
 go_wp2_with fail
 refine HLK.out.mono ?_
 rintro e w3 ⟨hb3, hm⟩
 rw [HLL.out] at hm
 obtain ⟨bv, sv, rfl, h1, h2⟩ := hm
 simp only at h1 h2
 obtain ⟨ba, bc, rfl, _⟩ := id h1
 obtain ⟨s0, s2, rfl, _⟩ := id h2
 have z0 := (hb3.block _ (qC HX0.out)).trans HX0.out
 have z1 := (hb3.block _ (qC HX1.out)).trans HX1.out
 have g0 : w3.cell? ⟨w.heap.size, 0, none⟩ = some (.int .i64 0) := qB z0 rfl
 have g1 : w3.cell? ⟨w.heap.size, 1, none⟩ = some (.slice none 0 0) := qB z0 rfl
 have g2 : w3.cell? ⟨w.heap.size, 2, none⟩ = some (.slice none 0 0) := qB z0 rfl
 have q0 : w3.frozen? ⟨w.heap.size, 0, none⟩ = false := qE z0
 have q1 : w3.frozen? ⟨w.heap.size, 1, none⟩ = false := qE z0
 have q2 : w3.frozen? ⟨w.heap.size, 2, none⟩ = false := qE z0
 have f0 : w3.cell? ⟨w.heap.size + 1, 0, none⟩ = some (.int .i64 0) := qB z1 rfl
 have f1 : w3.cell? ⟨w.heap.size + 1, 1, none⟩ = some (.int .i64 0) := qB z1 rfl
 have y0 : w3.frozen? ⟨w.heap.size + 1, 0, none⟩ = false := qE z1
 have y1 : w3.frozen? ⟨w.heap.size + 1, 1, none⟩ = false := qE z1
 have hz0 := qC z0
 have hz1 := qC z1
 have H1 := Lib.hid h1
 have H2 := Lib.hid h2
 have Z0 := Lib.hid z0
 have Z1 := Lib.hid z1
 have HB3 := Lib.hid (HW2.out.trans (hb3.mono HW2.out.size))
 clear hb3 h1 h2 z0 z1 HLK HX0 HX1 HLL
 go_wp2_with fail
 have n3 : ∀ (a : Int) (x y : Option Addr) (b c d e : Nat) (j : Nat) (n : Int), (#[Value.int .i64 a, .slice x b c, .slice y d e] : Array Value)[j]? ≠ some (.int .u8 n) := by
  intro a x y b c d e j n h
  rcases j with _ | _ | _ | j <;> simp at h
 have m3 : ∀ (a : Int) (x y : Option Addr) (b c d e : Nat) (j : Nat) (n : ByteArray), (#[Value.int .i64 a, .slice x b c, .slice y d e] : Array Value)[j]? ≠ some (.string n) := by
  intro a x y b c d e j n h
  rcases j with _ | _ | _ | j <;> simp at h
 have n2 : ∀ (a b : Int) (j : Nat) (n : Int), (#[Value.int .i64 a, .int .i64 b] : Array Value)[j]? ≠ some (.int .u8 n) := by
  intro a b j n h
  rcases j with _ | _ | j <;> simp at h
 have m2 : ∀ (a b : Int) (j : Nat) (n : ByteArray), (#[Value.int .i64 a, .int .i64 b] : Array Value)[j]? ≠ some (.string n) := by
  intro a b j n h
  rcases j with _ | _ | j <;> simp at h
 have t1 := qQ (i := 0) (v := .int .i64 base) Z0.out
 have t2 := qQ (i := 1) (v := .slice ba code.length bc) t1
 have t3 := qQ (i := 2) (v := .slice s0 sy.length s2) t2
 have b1 := H1.out.set (i := 0) (v := .int .i64 base) Z0.out (n3 _ _ _ _ _ _ _)
 have b2 := b1.set (i := 1) (v := .slice ba code.length bc) t1 (n3 _ _ _ _ _ _ _)
 have b3 := b2.set (i := 2) (v := .slice s0 sy.length s2) t2 (n3 _ _ _ _ _ _ _)
 have c1 := H2.out.set (i := 0) (v := .int .i64 base) Z0.out (m3 _ _ _ _ _ _ _)
 have c2 := c1.set (i := 1) (v := .slice ba code.length bc) t1 (m3 _ _ _ _ _ _ _)
 have c3 := c2.set (i := 2) (v := .slice s0 sy.length s2) t2 (m3 _ _ _ _ _ _ _)
 have u0 : (((w3.setCell ⟨w.heap.size, 0, none⟩ (.int .i64 base)).setCell ⟨w.heap.size, 1, none⟩ (.slice ba code.length bc)).setCell ⟨w.heap.size, 2, none⟩ (.slice s0 sy.length s2)).heap[w.heap.size + 1]? = some (.cells #[.int .i64 0, .int .i64 0] 38 (0, 0)) := by
  rw [Below.heap_setCell _ _ _ _ (by show w.heap.size + 1 ≠ w.heap.size; omega), Below.heap_setCell _ _ _ _ (by show w.heap.size + 1 ≠ w.heap.size; omega), Below.heap_setCell _ _ _ _ (by show w.heap.size + 1 ≠ w.heap.size; omega)]
  exact Z1.out
 have u1 := qQ (i := 0) (v := .int .i64 0) u0
 have b4 := b3.set (i := 0) (v := .int .i64 0) u0 (n2 _ _)
 have b5 := b4.set (i := 1) (v := .int .i64 0) u1 (n2 _ _)
 have c4 := c3.set (i := 0) (v := .int .i64 0) u0 (m2 _ _)
 have c5 := c4.set (i := 1) (v := .int .i64 0) u1 (m2 _ _)
 refine bodyPost_ret (v := .tuple #[.agg #[.int .i64 base, .slice ba code.length bc, .slice s0 sy.length s2], .agg #[.int .i64 0, .int .i64 0]]) (by simp [results, Tryz.results14, go_sem, g0, g1, g2, f0, f1]) rfl ⟨⟨ba, bc, s0, s2, rfl, b5, c5⟩, ?_⟩
 have hB := HB3.out
 exact ((((hB.setCell (p := ⟨w.heap.size, 0, none⟩) (Nat.le_refl _) _).setCell (p := ⟨w.heap.size, 1, none⟩) (Nat.le_refl _) _).setCell (p := ⟨w.heap.size, 2, none⟩) (Nat.le_refl _) _).setCell (p := ⟨w.heap.size + 1, 0, none⟩) (by show w.heap.size <= w.heap.size + 1; omega) _).setCell (p := ⟨w.heap.size + 1, 1, none⟩) (by show w.heap.size <= w.heap.size + 1; omega) _
theorem brd_of {w : World} {v : Value} {l : List UInt8} (h : qh w v l) : ∃ ba bc, v = .slice ba l.length bc /\ Si.BRd w ba l := by
 obtain ⟨ad, cap, rfl, _, hc⟩ := h
 refine ⟨ad, cap, rfl, fun h0 => ?_⟩
 obtain ⟨b, o, rfl, hl, hcs⟩ := hc h0
 refine ⟨b, o, rfl, hl, fun i hi => ?_⟩
 rw [hcs i hi]
 simp [Si.bsOf, List.getD, hi]
theorem mv_new {w : World} {base : Int} {l : List UInt8} {sy : List Sy} {gb gs : Nat} (h1 : w.heap[gb]? = some (.cells (Si.qA8 l).toArray 5 (0, 0))) (h2 : w.heap[gs]? = some (.cells (Si.qZ sy).toArray 83 (0, 0))) :
  Si.MV w (.agg (Si.mC (Si.newM base l) (some ⟨gb, 0, none⟩) l.length (.slice (some ⟨gs, 0, none⟩) sy.length sy.length) none 0)) (Si.newM base l) sy := by
 refine ⟨_, _, _, _, _, _, rfl, fun _ => ?_, fun h0 => absurd h0 (by simp [Si.newM]), Si.qDf h2 (Si.qCd sy)⟩
 refine ⟨gb, 0, rfl, qC h1, fun i hi => ?_⟩
 rw [Nat.zero_add]
 refine qB h1 ?_
 have hi' : i < l.length := hi
 simp [Si.qA8, Si.bsOf, Si.newM, List.getD, hi']
theorem new_of (base : Int) (code : List UInt8) (sy : List Sy) (bv sv : Value) (w : World) (hB : qh w bv code) (hS : qAu w sv sy) (hl : code.length <= 1048576) (hsl : sy.length <= 1000) :
  Calls Tryz.prog 12 #[.agg #[.int .i64 base, bv, sv]] w fun e w' => ∃ v, e = .returned v /\ Below w.heap.size w w' /\ Si.MV w' v (Si.newM base code) sy := by
 obtain ⟨ba, bc, rfl, hb⟩ := brd_of hB
 obtain ⟨s0, s2, rfl, hs⟩ := Si.qAu.src hS
 refine (Si.pnew_any base code ba bc sy s0 s2 w hb hs (by omega) (by omega)).mono ?_
 rintro e w' ⟨gb, gs, rfl, hbl, _, _, h1, h2⟩
 exact ⟨_, rfl, hbl, mv_new h1 h2⟩
theorem runs_new (base : Int) (code : List UInt8) (h0 : 0 <= base) (h1 : base <= 1048576) (hl : code.length <= 1048576) : Si.Runs (Si.newM base code) 0 := by
 have z : Si.in32 0 := ⟨by decide, by decide⟩
 refine ⟨h0, h1, hl, by simp [Si.newM], fun k => z, ⟨?_, ?_⟩, ⟨show (-2147483648 : Int) <= -1 by decide, show (-1 : Int) <= 2147483647 by decide⟩, by simp [Si.newM], by simp [Si.newM]⟩
 ·show -2147483648 <= base; omega
 ·show base <= 2147483647; omega
theorem run_of (base : Int) (code : List UInt8) (sy : List Sy) (tl : List Int) (v : Value) (w : World) (hv : Si.MV w v (Si.newM base code) sy) (hL : Isa.Laid w) (h0 : 0 <= base) (h1 : base <= 1048576) (hl : code.length <= 1048576) (hsl : sy.length <= 1000)
  (hr : Si.runE 2000 (Si.newM base code) = 0 /\ (Si.runM 2000 (Si.newM base code)).told = tl /\ ∀ M, Si.Rch (Si.newM base code) M -> Si.ResM M) :
  Calls Tryz.prog 11 #[v, .int .i64 2000] w fun e w' => ∃ m ba bc s0 sl s2 ta tc, e = .returned (.tuple #[.agg (Si.mC m ba bc (.slice s0 sl s2) ta tc), .int .i64 0]) /\ m.told = tl /\ Si.TRd w' ta tl /\ Below w.heap.size w w' := by
 refine (Si.run_res (Si.newM base code) sy v 2000 w hv hL (runs_new base code h0 h1 hl) (by decide) (by omega) hr.2.2).mono ?_
 rintro e w' ⟨v', rfl, hb, h⟩
 rcases h with ⟨h, _⟩ | ⟨_, h⟩
 ·exact absurd hr.1 h
 ·obtain ⟨ba, bc, s0, s2, ta, tc, rfl, _, h3, _⟩ := h.mv
  exact ⟨_, ba, bc, s0, _, s2, ta, tc, by rw [hr.1], hr.2.1, by rw [<- hr.2.1]; exact h3, hb⟩
theorem newbox (W : World) (z c : Array Value) : Below W.heap.size W ((W.alloc (.cells z 43)).setRow W.heap.size c) /\ ((W.alloc (.cells z 43)).setRow W.heap.size c).heap[W.heap.size]? = some (.cells c 43 (0, 0)) :=
 ⟨below_setRow (qD _ _) (Nat.le_refl _) _, setRow_heap _ _ _ _ _ _ (qI W _ rfl)⟩
theorem qKV {W : World} {g : Nat} {m : Si.Ma} {ba : Option Addr} {bc : Nat} {sv : Value} {ta : Option Addr} {tc : Nat} (h : W.heap[g]? = some (.cells (Si.mC m ba bc sv ta tc) 43 (0, 0))) : W.cell? ⟨g, 22, none⟩ = some (.slice ta m.told.length tc) := qB (i := 22) h rfl
theorem at_new (l : List Si.I4) : Si.At (Si.newM 0 (Si.qAR l)) l 0 0 0 false [] := ⟨rfl, rfl, rfl, rfl, rfl, rfl, rfl⟩
theorem infoBy : (Tryz.prog.info? 33).map (fun i => (i.zero, i.size, i.bytes)) = some (some (.slice none 0 0), 1, 24) := by kernel_rfl
structure Says (S : List UInt8) (ob : Ob) (base : Int) (code : List UInt8) (sy : List Sy) (tl : List Int) (w : World) : Prop where
 un : ∀ W v, Below w.heap.size w W -> Sc.qCL W v S -> qKR v ob W
 wr : qAK qO ob = 0
 nl : ∀ x, x ∈ ob.syms -> x.name.length <= maxLen
 lk : Li.qCZ qO [ob] base = .ok (code, sy)
 rn : Si.runE 2000 (Si.newM base code) = 0 /\ (Si.runM 2000 (Si.newM base code)).told = tl /\ ∀ M, Si.Rch (Si.newM base code) M -> Si.ResM M
 b0 : 0 <= base
 b1 : base <= 1048576
 cl : code.length <= 1048576
 sl : sy.length <= 1000
 ss : S.length <= 1000000
theorem qDi {w w' : World} {v : Value} {bs : List UInt8} (h : Sc.qCL w v bs) (hb : Below w.heap.size w w') : Sc.qCL w' v bs := by
 obtain ⟨ad, cap, rfl, hm, hc⟩ := h
 refine ⟨ad, cap, rfl, hm, fun h0 => ?_⟩
 obtain ⟨b, o, rfl, hlt, hcell⟩ := hc h0
 exact ⟨b, o, rfl, Nat.lt_of_lt_of_le hlt hb.size, fun i hi => by rw [hb.cell (by exact hlt)]; exact hcell i hi⟩
theorem qJD {w3 : World} {gi gf : Nat} (hne : gf ≠ gi) {base : Int} {code : List UInt8} {sy : List Sy} {ba s0 : Option Addr} {bc s2 : Nat} (Z0 : w3.heap[gi]? = some (.cells #[.int .i64 0, .slice none 0 0, .slice none 0 0] 36 (0, 0))) (Z1 : w3.heap[gf]? = some (.cells #[.int .i64 0, .int .i64 0] 38 (0, 0))) (H1 : qh w3 (.slice ba code.length bc) code) (H2 : qAu w3 (.slice s0 sy.length s2) sy) :
  qh (((((w3.setCell ⟨gi, 0, none⟩ (.int .i64 base)).setCell ⟨gi, 1, none⟩ (.slice ba code.length bc)).setCell ⟨gi, 2, none⟩ (.slice s0 sy.length s2)).setCell ⟨gf, 0, none⟩ (.int .i64 0)).setCell ⟨gf, 1, none⟩ (.int .i64 0)) (.slice ba code.length bc) code /\ qAu (((((w3.setCell ⟨gi, 0, none⟩ (.int .i64 base)).setCell ⟨gi, 1, none⟩ (.slice ba code.length bc)).setCell ⟨gi, 2, none⟩ (.slice s0 sy.length s2)).setCell ⟨gf, 0, none⟩ (.int .i64 0)).setCell ⟨gf, 1, none⟩ (.int .i64 0)) (.slice s0 sy.length s2) sy := by
 have n3 : ∀ (a : Int) (x y : Option Addr) (b c d e : Nat) (j : Nat) (n : Int), (#[Value.int .i64 a, .slice x b c, .slice y d e] : Array Value)[j]? ≠ some (.int .u8 n) := by
  intro a x y b c d e j n h
  rcases j with _ | _ | _ | j <;> simp at h
 have m3 : ∀ (a : Int) (x y : Option Addr) (b c d e : Nat) (j : Nat) (n : ByteArray), (#[Value.int .i64 a, .slice x b c, .slice y d e] : Array Value)[j]? ≠ some (.string n) := by
  intro a x y b c d e j n h
  rcases j with _ | _ | _ | j <;> simp at h
 have n2 : ∀ (a b : Int) (j : Nat) (n : Int), (#[Value.int .i64 a, .int .i64 b] : Array Value)[j]? ≠ some (.int .u8 n) := by
  intro a b j n h
  rcases j with _ | _ | j <;> simp at h
 have m2 : ∀ (a b : Int) (j : Nat) (n : ByteArray), (#[Value.int .i64 a, .int .i64 b] : Array Value)[j]? ≠ some (.string n) := by
  intro a b j n h
  rcases j with _ | _ | j <;> simp at h
 have t1 := qQ (i := 0) (v := .int .i64 base) Z0
 have t2 := qQ (i := 1) (v := .slice ba code.length bc) t1
 have b1 := H1.set (i := 0) (v := .int .i64 base) Z0 (n3 _ _ _ _ _ _ _)
 have b2 := b1.set (i := 1) (v := .slice ba code.length bc) t1 (n3 _ _ _ _ _ _ _)
 have b3 := b2.set (i := 2) (v := .slice s0 sy.length s2) t2 (n3 _ _ _ _ _ _ _)
 have c1 := H2.set (i := 0) (v := .int .i64 base) Z0 (m3 _ _ _ _ _ _ _)
 have c2 := c1.set (i := 1) (v := .slice ba code.length bc) t1 (m3 _ _ _ _ _ _ _)
 have c3 := c2.set (i := 2) (v := .slice s0 sy.length s2) t2 (m3 _ _ _ _ _ _ _)
 have u0 : (((w3.setCell ⟨gi, 0, none⟩ (.int .i64 base)).setCell ⟨gi, 1, none⟩ (.slice ba code.length bc)).setCell ⟨gi, 2, none⟩ (.slice s0 sy.length s2)).heap[gf]? = some (.cells #[.int .i64 0, .int .i64 0] 38 (0, 0)) := by
  rw [Below.heap_setCell _ _ _ _ hne, Below.heap_setCell _ _ _ _ hne, Below.heap_setCell _ _ _ _ hne]
  exact Z1
 have u1 := qQ (i := 0) (v := .int .i64 0) u0
 exact ⟨(b3.set (i := 0) (v := .int .i64 0) u0 (n2 _ _)).set (i := 1) (v := .int .i64 0) u1 (n2 _ _), (c3.set (i := 0) (v := .int .i64 0) u0 (m2 _ _)).set (i := 1) (v := .int .i64 0) u1 (m2 _ _)⟩
theorem qIx {ob : Ob} (hw : qAK qO ob = 0) (hn : ∀ x, x ∈ ob.syms -> x.name.length <= maxLen) (W : World) (c s q : Value) (h : qBl W c s q ob) : Calls Tryz.prog 26 #[.agg #[c, s, q]] W fun r w' => r = .returned (.int .i64 0) /\ Below W.heap.size W w' := by
 have := Li.qBq ob c s q W h.1 h.2.1 h.2.2 hn
 rw [hw] at this
 exact this
theorem qKq (S : List UInt8) (ob : Ob) (base : Int) (code : List UInt8) (sy : List Sy) (tl : List Int) (b c : Nat) (cur : Array Value) (va : Option Addr) (vl vc : Nat) (w w0 : World) (hS : Says S ob base code sy tl w0) (h0 : Below w0.heap.size w0 w) (hv : Sc.qCL w (.slice va vl vc) S) (hb : w.heap[b]? = some (.cells cur 33 (0, 0))) (hc : cur[0]? = some (.slice va vl vc)) :
  Calls Tryz.prog 10 #[.slice (some ⟨b, 0, none⟩) 1 c, .int .i64 base] w (ImgTo base code sy w) := by
 have HL : Hid (∀ W, Below w.heap.size w W -> W.heap[w.heap.size]? = some (.cells #[.slice (some ⟨b, 0, none⟩) 1 c] 32 (0, 0)) -> Calls Tryz.prog 14 #[.int .i64 1, .int .i64 base, .func (.func 15) #[] #[.pointer (some ⟨w.heap.size, 0, none⟩)]] W (ImgTo base code sy W)) := by
  intro W hW hg
  refine qJy ob base code sy hS.lk 15 w.heap.size W hS.nl qKa (fun X hX => ?_)
  have hwX : Below w.heap.size w X := hW.trans (hX.mono hW.size)
  have := qLk w.heap.size b 1 c 0 cur va vl vc ob X ((hX.block _ (qC hg)).trans hg) ((hwX.block _ (qC hb)).trans hb) (by decide) hc (fun Y hY => hS.un Y _ (h0.trans ((hwX.trans (hY.mono hwX.size)).mono h0.size)) (qDi hv (hwX.trans (hY.mono hwX.size)))) (fun Y c s q h => qIx hS.wr hS.nl Y c s q h)
  exact this
 have zb := qC hb
 clear hS h0 hv hb hc
 go_enter Tryz.func10, Tryz.ntmps10
 go_wp2_with fail
 have hb0 : Below w.heap.size w (((w.alloc (.cells #[.slice (some ⟨b, 0, none⟩) 1 c] 32)).alloc (.cells #[.int .i64 0, .slice none 0 0, .slice none 0 0] 36)).alloc (.cells #[.int .i64 0, .int .i64 0] 38)) := by go_grown
 refine (HL.out _ hb0 (by rw [old2 _ _ (by go_size), old2 _ _ (by simp)]; exact qI _ _ rfl)).mono ?_
 rintro e w3 ⟨⟨ba, bc, s0, s2, rfl, h1, h2⟩, hb3⟩
 have z0 : w3.heap[w.heap.size + 1]? = some (.cells #[.int .i64 0, .slice none 0 0, .slice none 0 0] 36 (0, 0)) := by
  rw [hb3.block _ (by simp), old2 _ _ (by simp)]
  exact qI _ _ (by simp)
 have z1 : w3.heap[w.heap.size + 1 + 1]? = some (.cells #[.int .i64 0, .int .i64 0] 38 (0, 0)) := by
  rw [hb3.block _ (by simp)]
  exact qI _ _ (by simp)
 have g0 : w3.cell? ⟨w.heap.size + 1, 0, none⟩ = some (.int .i64 0) := qB z0 rfl
 have g1 : w3.cell? ⟨w.heap.size + 1, 1, none⟩ = some (.slice none 0 0) := qB z0 rfl
 have g2 : w3.cell? ⟨w.heap.size + 1, 2, none⟩ = some (.slice none 0 0) := qB z0 rfl
 have q0 : w3.frozen? ⟨w.heap.size + 1, 0, none⟩ = false := qE z0
 have q1 : w3.frozen? ⟨w.heap.size + 1, 1, none⟩ = false := qE z0
 have q2 : w3.frozen? ⟨w.heap.size + 1, 2, none⟩ = false := qE z0
 have f0 : w3.cell? ⟨w.heap.size + 1 + 1, 0, none⟩ = some (.int .i64 0) := qB z1 rfl
 have f1 : w3.cell? ⟨w.heap.size + 1 + 1, 1, none⟩ = some (.int .i64 0) := qB z1 rfl
 have y0 : w3.frozen? ⟨w.heap.size + 1 + 1, 0, none⟩ = false := qE z1
 have y1 : w3.frozen? ⟨w.heap.size + 1 + 1, 1, none⟩ = false := qE z1
 have hz0 := qC z0
 have hz1 := qC z1
 have HS := Lib.hid (qJD (gi := w.heap.size + 1) (gf := w.heap.size + 1 + 1) (by omega) (base := base) z0 z1 h1 h2)
 have HB3 := Lib.hid (hb0.trans (hb3.mono hb0.size))
 clear hb3 h1 h2 z0 z1 hb0 HL
 go_wp2_with fail
 refine bodyPost_ret (v := .tuple #[.agg #[.int .i64 base, .slice ba code.length bc, .slice s0 sy.length s2], .agg #[.int .i64 0, .int .i64 0]]) (by simp [results, Tryz.results10, go_sem, g0, g1, g2, f0, f1]) rfl ⟨⟨ba, bc, s0, s2, rfl, HS.out.1, HS.out.2⟩, ?_⟩
 have hB := HB3.out
 exact ((((hB.setCell (p := ⟨w.heap.size + 1, 0, none⟩) (by show w.heap.size <= w.heap.size + 1; omega) _).setCell (p := ⟨w.heap.size + 1, 1, none⟩) (by show w.heap.size <= w.heap.size + 1; omega) _).setCell (p := ⟨w.heap.size + 1, 2, none⟩) (by show w.heap.size <= w.heap.size + 1; omega) _).setCell (p := ⟨w.heap.size + 1 + 1, 0, none⟩) (by show w.heap.size <= w.heap.size + 1 + 1; omega) _).setCell (p := ⟨w.heap.size + 1 + 1, 1, none⟩) (by show w.heap.size <= w.heap.size + 1 + 1; omega) _
theorem qJs (W : World) (g : Nat) (ca : Option Addr) (cl cc : Nat) (hg : W.heap[g]? = some (.cells #[.slice ca cl cc] 33 (0, 0))) :
  ∃ b lc cur w', (∀ ty, (Builtin.append_ #[32, 32] ty #[.slice none 0 0, .slice (some ⟨g, 0, none⟩) 1 1]).run Tryz.prog W = .ok (.slice (some ⟨b, 0, none⟩) 1 lc) w') /\ w'.heap[b]? = some (.cells cur 33 (0, 0)) /\ cur[0]? = some (.slice ca cl cc) /\ Below W.heap.size W w' := by
 obtain ⟨v', w', happ, hr', hgr⟩ := app1 32 33 _ 1 24 Tryz.underlying32 infoBy rfl (by decide) (by decide) (World.ownsRow_nil W W.heap.size 33 1) (Nat.le_refl _) [.slice ca cl cc] rfl g hg (by intro u hu; simp at hu; subst hu; rfl) (by decide)
 rcases hr'.2 with ⟨_, h0⟩ | ⟨b, cap, cur, rfl, _, hb, _, _, _, htk⟩
 ·omega
 ·refine ⟨b, cap, cur, w', happ, hb, ?_, ⟨hgr.os, hgr.tape, hgr.output, hgr.size, fun i hi => hgr.block i hi (by simp [Value.ownBlock])⟩⟩
  have h0 := congrArg (fun l => l[0]?) htk
  simpa using h0
theorem qIe (S : List UInt8) (ob : Ob) (base : Int) (code : List UInt8) (sy : List Sy) (tl : List Int) (lb lc : Nat) (w : World) (hS : Says S ob base code sy tl w) (hL : Isa.Laid w) (hs : w.heap[lb]? = some (.cells #[.string ⟨S.toArray⟩] 9 (0, 0))) :
  Calls Tryz.prog 8 #[.int .i64 base, .slice (some ⟨lb, 0, none⟩) 1 lc] w fun e w' => (∃ ta tc, e = .returned (.tuple #[.slice ta tl.length tc, .int .i64 0]) /\ Si.TRd w' ta tl) /\ Below w.heap.size w w' := by
 have hcv := fun W => Lib.run_convert_string_bytes (P := Tryz.prog) W 9 33 5 ⟨S.toArray⟩ Tryz.underlying9 Tryz.underlying33 Tryz.underlying5
 have hbW : Below w.heap.size w (Lib.bytesWorld w 5 ⟨S.toArray⟩) := Lib.bytesWorld_below _ _ _
 have hbr : Sc.qCL (Lib.bytesWorld w 5 ⟨S.toArray⟩) (.slice (some ⟨w.heap.size, 0, none⟩) S.length (grownCap w S.length 0 5)) S := by
  refine ⟨_, _, rfl, by have := hS.ss; unfold maxLen; omega, fun _ => ⟨_, _, rfl, by rw [Lib.bytesWorld_size]; omega, fun i hi => ?_⟩⟩
  rw [Nat.zero_add, Lib.bytesWorld_cell _ _ _ _ (by simpa [ByteArray.size] using hi)]
  simp [List.getD, hi]
 obtain ⟨b, blc, cur, w2, happ, hbk, hcur, hb2⟩ := qJs ((Lib.bytesWorld w 5 ⟨S.toArray⟩).alloc (.cells #[.slice (some ⟨w.heap.size, 0, none⟩) S.length (grownCap w S.length 0 5)] 33)) (Lib.bytesWorld w 5 ⟨S.toArray⟩).heap.size (some ⟨w.heap.size, 0, none⟩) S.length (grownCap w S.length 0 5) (qI _ _ rfl)
 have hbW2 : Below (Lib.bytesWorld w 5 ⟨S.toArray⟩).heap.size (Lib.bytesWorld w 5 ⟨S.toArray⟩) w2 := (qD _ _).trans (hb2.mono (by simp))
 have hB2 : Below w.heap.size w w2 := hbW.trans (hbW2.mono hbW.size)
 have HBU := Lib.hid (qKq S ob base code sy tl b blc cur (some ⟨w.heap.size, 0, none⟩) S.length (grownCap w S.length 0 5) w2 w hS hB2 (qDi hbr hbW2) hbk hcur)
 have HS := Lib.hid hS
 have HL := Lib.hid hL
 have HB2 := Lib.hid hB2
 have HA := Lib.hid happ
 have k0 : w.cell? ⟨lb, 0, none⟩ = some (.string ⟨S.toArray⟩) := qB hs rfl
 have zl := qC hs
 clear hS hL hs happ hbk hcur hb2 hbW2 hB2 hbr hbW
 go_enter Tryz.func8, Tryz.ntmps8
 go_wp2_with fail
 refine wp_loop_rounds 2 ?_
 rw [rounds_succ]
 go_wp2_with (first | (at_builtin; refine qAI rfl _ _ _ _ rfl _ _ rfl rfl HA.out ?_))
 clear hcv k0 HA
 rw [rounds_succ]
 go_wp2_with fail
 refine HBU.out.mono ?_
 rintro e w3 ⟨⟨ba, bc, s0, s2, rfl, h1, h2⟩, hb3⟩
 have HNW : Hid (∀ W, Below w3.heap.size w3 W -> Calls Tryz.prog 12 #[.agg #[.int .i64 base, .slice ba code.length bc, .slice s0 sy.length s2]] W fun e w' => ∃ v, e = .returned v /\ Below W.heap.size W w' /\ Si.MV w' v (Si.newM base code) sy) := fun W hW => new_of base code sy _ _ W (h1.below hW (Nat.le_refl _)) (h2.below hW (Nat.le_refl _)) HS.out.cl HS.out.sl
 have HB3 := Lib.hid (HB2.out.trans (hb3.mono HB2.out.size))
 have HRN : Hid (∀ W v, Below w3.heap.size w3 W -> Si.MV W v (Si.newM base code) sy -> Calls Tryz.prog 11 #[v, .int .i64 2000] W fun e w' => ∃ m ba bc s0 sl s2 ta tc, e = .returned (.tuple #[.agg (Si.mC m ba bc (.slice s0 sl s2) ta tc), .int .i64 0]) /\ m.told = tl /\ Si.TRd w' ta tl /\ Below W.heap.size W w') := fun W v hW hv => run_of base code sy tl v W hv (HL.out.below (HB3.out.trans (hW.mono HB3.out.size)) HL.out.sz) HS.out.b0 HS.out.b1 HS.out.cl HS.out.sl HS.out.rn
 clear h1 h2 hb3 HBU
 go_wp2_with fail
 have hb4 : Below w3.heap.size w3 ((w3.alloc (.cells #[.int .i64 base, .slice ba code.length bc, .slice s0 sy.length s2] 36)).alloc (.cells #[.int .i64 0, .int .i64 0] 38)) := by go_grown
 refine (HNW.out _ hb4).mono ?_
 rintro e w5 ⟨v, rfl, hb5, hmv⟩
 have hB5 : Below w3.heap.size w3 w5 := hb4.trans (hb5.mono hb4.size)
 have HR := Lib.hid (HRN.out w5 v hB5 hmv)
 have HB5 := Lib.hid (HB3.out.trans (hB5.mono HB3.out.size))
 clear hb4 hb5 hB5 hmv HNW HRN
 go_wp2_with fail
 refine HR.out.mono ?_
 rintro e w6 ⟨m, ba', bc', s0', sl', s2', ta, tc, rfl, htl, htr, hb6⟩
 have HTR := Lib.hid htr
 have HB6 := Lib.hid (HB5.out.trans (hb6.mono HB5.out.size))
 have HTL := Lib.hid htl
 have HN := Lib.hid (qI w6 (.cells #[.int .i64 0, .int .i64 0, .int .i64 0, .int .i64 0, .int .i64 0, .int .i64 0, .int .i64 0, .int .i64 0, .int .i64 0, .int .i64 0, .int .i64 0, .int .i64 0, .int .i64 0, .int .i64 0, .int .i64 0, .int .i64 0, .bool false, .int .i64 0, .int .i64 0, .int .i64 0, .slice none 0 0, .slice none 0 0, .slice none 0 0, .int .i64 0] 43) rfl)
 clear hb6 htr htl HR
 go_wp2_with (first | (refine wpList_store_row rfl 43 _ _ rfl w6.heap.size (Si.mC m ba' bc' (.slice s0' sl' s2') ta tc) rfl rfl 43 #[.int .i64 0, .int .i64 0, .int .i64 0, .int .i64 0, .int .i64 0, .int .i64 0, .int .i64 0, .int .i64 0, .int .i64 0, .int .i64 0, .int .i64 0, .int .i64 0, .int .i64 0, .int .i64 0, .int .i64 0, .int .i64 0, .bool false, .int .i64 0, .int .i64 0, .int .i64 0, .slice none 0 0, .slice none 0 0, .slice none 0 0, .int .i64 0] HN.out (Si.qBn _ _ _ _ _ _) rfl (Si.mAll _ _ _ _ _ _ _ _) ?_; obtain ⟨hbx, hqx⟩ := newbox w6 #[.int .i64 0, .int .i64 0, .int .i64 0, .int .i64 0, .int .i64 0, .int .i64 0, .int .i64 0, .int .i64 0, .int .i64 0, .int .i64 0, .int .i64 0, .int .i64 0, .int .i64 0, .int .i64 0, .int .i64 0, .int .i64 0, .bool false, .int .i64 0, .int .i64 0, .int .i64 0, .slice none 0 0, .slice none 0 0, .slice none 0 0, .int .i64 0] (Si.mC m ba' bc' (.slice s0' sl' s2') ta tc); generalize World.setRow _ w6.heap.size _ = X at hbx hqx ⊢; have HTX := Lib.hid (HTR.out.next hbx); have HBX := Lib.hid (HB6.out.trans (hbx.mono HB6.out.size)); have hc := qKV hqx; rw [HTL.out] at hc; have hzx := qC hqx; clear hbx hqx HN))
 go_ret2
 exact ⟨⟨ta, tc, rfl, HTX.out⟩, HBX.out⟩
theorem five_str : (⟨qHp.toArray⟩ : ByteArray) = ⟨#[109, 111, 118, 32, 35, 53, 44, 114, 48, 10, 116, 114, 97, 112, 97, 32, 35, 49, 10, 116, 114, 97, 112, 97, 32, 35, 48, 10]⟩ := rfl
theorem qKA (A B : List UInt8) (z0 z1 z2 z3 : UInt8) (n : Int) : Li.putL (A ++ ([z0, z1, z2, z3] ++ B)) (A.length : Int) 4 n = A ++ (be4 n ++ B) := by
 unfold Li.putL
 apply List.ext_getElem?
 intro i
 rw [List.getElem?_mapIdx]
 by_cases h1 : i < A.length
 ·rw [List.getElem?_append_left h1, List.getElem?_append_left h1, List.getElem?_eq_getElem h1]
  simp only [Option.map_some]
  rw [if_neg (by omega)]
 ·rw [List.getElem?_append_right (Nat.le_of_not_lt h1), List.getElem?_append_right (l₁ := A) (l₂ := be4 n ++ B) (Nat.le_of_not_lt h1)]
  obtain ⟨j, hj⟩ : ∃ j, i = A.length + j := ⟨i - A.length, by omega⟩
  subst hj
  rw [show A.length + j - A.length = j by omega]
  have e : ((A.length + j : Nat) : Int) - (A.length : Int) = j := by omega
  rw [e]
  rcases j with _ | _ | _ | _ | j
  ·rfl
  ·rfl
  ·rfl
  ·have e4 : n / 2 ^ (8 * ((4 : Int) - 1 - 3)).toNat = n := by simp
   show some (lowB (n / 2 ^ (8 * ((4 : Int) - 1 - 3)).toNat)) = some (lowB n)
   rw [e4]
  ·have hB : ([z0, z1, z2, z3] ++ B)[j + 1 + 1 + 1 + 1]? = B[j]? := rfl
   have hB2 : (be4 n ++ B)[j + 1 + 1 + 1 + 1]? = B[j]? := rfl
   rw [hB, hB2]
   cases B[j]? with
   | none => rfl
   | some c =>
     simp only [Option.map_some]
     rw [if_neg (by omega)]
theorem sumC_len (l : List Int) : (sumC l).length = 24 + 4 * l.length := by
 unfold sumC
 rw [List.length_append, List.length_append, Si.qCe, Si.qDC]
 simp
theorem qHA (l : List Int) (h1 : l.length <= 20) : qAK qO (qBR l) = 0 := by
 have hl := sumC_len l
 have hn1 : qO qz = true := by decide
 have hn2 : qO qBK = true := by decide
 have e1 : qBN qO (sumC l).length [] ⟨qz, 6⟩ = 0 := by
  unfold qBN
  rw [if_neg (by rw [hn1]; decide), if_neg (by simp), if_neg (by simp only; omega)]
 have e2 : qBN qO (sumC l).length [⟨qz, 6⟩] ⟨qBK, 24⟩ = 0 := by
  unfold qBN
  rw [if_neg (by rw [hn2]; decide), if_neg (by decide), if_neg (by simp only; omega)]
 have e' : qAQ qO (sumC l).length [] [⟨qz, 6⟩, ⟨qBK, 24⟩] = 0 := by
  rw [qAQ, if_pos e1, List.nil_append, qAQ, if_pos e2]
  rfl
 have er : qAb qO (sumC l).length 0 [⟨20, 4, [], 24⟩] = 0 := by
  have e3 : qAy qO (sumC l).length 0 ⟨20, 4, [], 24⟩ = 0 := by
   unfold qAy
   simp only
   rw [if_neg (by omega), if_neg (by omega), if_neg (by omega), if_neg (by simp), if_neg (by unfold wrap32; omega)]
  rw [qAb, if_pos e3]
  rfl
 unfold qAK qBR
 simp only
 rw [if_neg (by simp; omega), if_pos e']
 exact er
theorem link_sum (base : Int) (l : List Int) (hb0 : 0 <= base) (hb1 : base <= 4000) (hb4 : base % 4 = 0) (h1 : l.length <= 20) : Li.qCZ qO [qBR l] base = .ok (Si.qB4 base l, [⟨qz, 6 + base⟩, ⟨qBK, 24 + base⟩]) := by
 have hu : Li.up4 base = base := Li.up4_of hb4
 have hw := qHA l h1
 have e1 : Li.qAE qO 0 [qBR l] = none := by simp [Li.qAE, hw]
 have e2 : [qBR l].zip (Li.qp base [qBR l]) = [(qBR l, base)] := by simp [Li.qp, hu]
 have hs : Li.qAk base [] (qBR l).syms = some [⟨qz, 6 + base⟩, ⟨qBK, 24 + base⟩] := rfl
 have e3 : Li.layL base 0 [] [] [(qBR l, base)] = .ok (sumC l, [⟨qz, 6 + base⟩, ⟨qBK, 24 + base⟩]) := by
  unfold Li.layL
  rw [hs]
  simp [Li.layL, qBR]
 have e5 : Li.qBf [⟨qz, 6 + base⟩, ⟨qBK, 24 + base⟩] base base (sumC l) ⟨20, 4, [], 24⟩ = .ok (Si.qB4 base l) := by
  have hp : Li.putL (sumC l) 20 4 (base + 24) = Si.qB4 base l := by
   have := qKA (Si.qAR (Si.sum4 l.length)) (Si.words l) 0 0 0 0 (base + 24)
   rw [Si.qCe] at this
   unfold sumC Si.qB4
   rw [List.append_assoc]
   exact this
  unfold Li.qBf
  simp only [if_true]
  rw [if_neg (by omega), if_neg (by omega), show wrap32 (base + 24) = base + 24 by unfold wrap32; omega, show base - base + 20 = 20 by omega, hp]
 have e4 : Li.relL [⟨qz, 6 + base⟩, ⟨qBK, 24 + base⟩] base 0 (sumC l) [(qBR l, base)] = .ok (Si.qB4 base l) := by
  have e6 : Li.qAV [⟨qz, 6 + base⟩, ⟨qBK, 24 + base⟩] base base (sumC l) (qBR l).rels = .ok (Si.qB4 base l) := by
   show Li.qAV _ base base (sumC l) [⟨20, 4, [], 24⟩] = _
   rw [Li.qAV, e5]
   rfl
  unfold Li.relL
  rw [e6]
  rfl
 unfold Li.qCZ
 rw [if_neg (by omega), if_neg (by simp)]
 unfold Li.qGY
 rw [e1]
 show Li.qF8 [qBR l] base = _
 unfold Li.qF8
 rw [e2, e3]
 show Li.qHV base [(qBR l, base)] (sumC l, _) = _
 unfold Li.qHV
 simp only [e4]
theorem says_sum (base : Int) (l : List Int) (hb0 : 0 <= base) (hb1 : base <= 4000) (hb4 : base % 4 = 0) (h0 : 1 <= l.length) (h1 : l.length <= 20) (hv : ∀ n, n ∈ l -> 0 <= n /\ n <= 1000000) (w : World) (hA : qAL w) : Says (sumS l) (qBR l) base (Si.qB4 base l) [⟨qz, 6 + base⟩, ⟨qBK, 24 + base⟩] [Si.qBL l] w := by
 refine ⟨fun W v hW hr => unit_sum v l W (hA.next hW) h0 h1 hv hr, qHA l h1, ?_, link_sum base l hb0 hb1 hb4 h1, Si.sum_run base l hb0 hb1 hb4 h0 h1 hv, hb0, by omega, ?_, by simp, ?_⟩
 ·intro x hx
  have : x = ⟨qz, 6⟩ \/ x = ⟨qBK, 24⟩ := by simpa [qBR] using hx
  rcases this with rfl | rfl <;> decide
 ·unfold Si.qB4
  rw [List.length_append, List.length_append, Si.qCe, Si.qDC]
  simp [be4]
  omega
 ·have := qIh l h1 hv
  omega
theorem qIv (w : World) (hA : qAL w) : Says qHp qD6 0 (qB3 qFa) [] [5] w := by
 refine ⟨fun W v hW hv => qFA v W (hA.next hW) hv, qFJ, fun x hx => by simp [qD6] at hx, qLs, ?_, by decide, by decide, by rw [qIE]; decide, by simp, by decide⟩
 rw [qJJ]
 exact five_run (at_new five4)
theorem palive2 (w : World) (hA : qAL w) : Calls Tryz.prog 6 #[] w fun e w' => e = .returned (.bool true) /\ Below w.heap.size w w' := by
 have HT : Hid (∀ W lb lc, Below w.heap.size w W -> W.heap[lb]? = some (.cells #[.string ⟨qHp.toArray⟩] 9 (0, 0)) -> Calls Tryz.prog 8 #[.int .i64 0, .slice (some ⟨lb, 0, none⟩) 1 lc] W fun e w' => (∃ ta tc, e = .returned (.tuple #[.slice ta 1 tc, .int .i64 0]) /\ Si.TRd w' ta [5]) /\ Below W.heap.size W w') := fun W lb lc hW hs => qIe qHp qD6 0 _ _ _ lb lc W (qIv W (hA.next hW)) (hA.next hW).isa hs
 clear hA
 go_enter Tryz.func6, Tryz.ntmps6
 go_wp2_with fail
 refine (HT.out _ _ _ (qD _ _) (by rw [five_str]; exact qI _ _ rfl)).mono ?_
 rintro e w1 ⟨⟨ta, tc, rfl, htr⟩, hb1⟩
 obtain ⟨b, off, rfl, hlt, hc⟩ := htr (by simp)
 have c0 : w1.cell? ⟨b, off, none⟩ = some (.int .i64 5) := hc 0 (by simp)
 have HB1 := Lib.hid ((qD w _).trans (hb1.mono (by simp)))
 clear hb1 hc HT
 go_wp2_with fail
 go_ret
 exact ⟨rfl, HB1.out⟩
def hdS (n : Nat) : List UInt8 := (qGZ n).flatMap fun a => a.1 ++ [10]
def tlS (l : List Int) : List UInt8 := (qEd l).flatMap fun a => a.1 ++ [10]
theorem sumS_eq (l : List Int) : sumS l = hdS l.length ++ tlS l := by
 unfold sumS sumL hdS tlS
 rw [List.flatMap_append]
theorem tlS_snoc (l : List Int) (x : Int) : tlS (l ++ [x]) = tlS l ++ (qCY x ++ [10]) := by
 simp [tlS, qEd]
def catS (s1 : List UInt8) : ByteArray := ((⟨#[109, 111, 118, 46, 108, 32, 61, 97, 108, 108, 44, 114, 52, 10, 109, 111, 118, 32, 35, 48, 44, 114, 48, 10, 109, 111, 118, 32, 35]⟩ : ByteArray) ++ ⟨s1.toArray⟩) ++ ⟨#[44, 114, 49, 10, 97, 103, 97, 105, 110, 58, 32, 109, 111, 118, 46, 108, 32, 64, 114, 52, 44, 114, 50, 10, 97, 100, 100, 32, 114, 50, 44, 114, 48, 10, 97, 100, 100, 32, 35, 52, 44, 114, 52, 10, 100, 116, 32, 114, 49, 10, 98, 102, 32, 97, 103, 97, 105, 110, 10, 116, 114, 97, 112, 97, 32, 35, 49, 10, 116, 114, 97, 112, 97, 32, 35, 48, 10, 46, 112, 111, 111, 108, 10, 97, 108, 108, 58, 10]⟩
theorem catS_eq (n : Nat) : catS (Lib.itoa n) = ⟨(hdS n).toArray⟩ := by
 unfold catS
 refine ByteArray.ext ?_
 simp [hdS, qGZ, qGr, qKB, qLM, qK8, qKP, qHB, dtL, bfL, tr1L, tr0L, sDpL, qLz, ByteArray.data_append]
theorem hdS_len (n : Nat) (h : n <= 20) : (hdS n).length <= 400 := by
 have h3 := Lib.itoa_length_le (n : Int) (by omega) (by omega)
 simp only [hdS, qGZ, List.flatMap_cons, List.flatMap_nil, List.length_append, List.length_cons, List.length_nil, qGr, qKB, qLM, qK8, qKP, qHB, dtL, bfL, tr1L, tr0L, sDpL, qLz]
 omega
theorem sum_in (a : Option Addr) (cap : Nat) (l : List Int) (base : Int) (w : World) (hA : qAL w) (hl : IRd w a l) (h0 : 1 <= l.length) (h1 : l.length <= 20) (hb0 : 0 <= base) (hb1 : base <= 4000) (hb4 : base % 4 = 0) :
  Calls Tryz.prog 3 #[.slice a l.length cap, .int .i64 base] w fun e w' => e = .returned (.bool true) /\ Below w.heap.size w w' := by
 have HA := Lib.hid hA
 have HL := Lib.hid hl
 clear hA hl
 have HAL := Lib.hid (palive2 w HA.out)
 have HI := Lib.hid fun W (hb : Below w.heap.size w W) => qL1 (l.length : Int) (by omega) (by omega) W (HA.out.gl.below hb HA.out.gl.sz)
 have hil := Lib.itoa_length_le (l.length : Int) (by omega) (by omega)
 have HS : Hid (catS (Lib.itoa (l.length : Int)) = ⟨(hdS l.length).toArray⟩) := catS_eq l.length
 generalize Lib.itoa (l.length : Int) = s1 at *
 unfold catS at HS
 have g0 : ¬ (l.length : Int) < 1 := by omega
 have g1 : ¬ (20 : Int) < l.length := by omega
 have g2 : ¬ base < 0 := by omega
 have g3 : ¬ (4000 : Int) < base := by omega
 have g4 : (base % 4 != 0) = false := by simp; omega
 go_enter Tryz.func3, Tryz.ntmps3
 go_wp2_with (first | (go_at_call 6; refine HAL.out.mono ?_; rintro e w1 ⟨rfl, hb1⟩; have HB1 := Lib.hid hb1; clear hb1) | (go_at_call 7; refine (HI.out _ HB1.out).mono ?_; rintro e w2 ⟨rfl, hb2⟩; have HB2 := Lib.hid (HB1.out.trans (hb2.mono HB1.out.size)); clear hb2))
 go_loopw [5, 6, 41] (fun sv uv iv wr => ∃ k : Nat, k <= l.length /\ iv = .int .i64 k /\ uv = .int .i64 (Si.qBL (l.take k)) /\ sv = .string ⟨(hdS l.length ++ tlS (l.take k)).toArray⟩ /\ Hid (∀ n, n ∈ l.take k -> 0 <= n /\ n <= 1000000) /\ Hid (Below w.heap.size w wr)) (fun _ _ iv _ => l.length - (intOf iv).toNat)
 case atStart => exact ⟨0, Nat.zero_le _, rfl, rfl, by rw [HS.out]; simp [tlS, qEd], by unfold Hid; simp, HB2⟩
 case round =>
  obtain ⟨k, hk, rfl, rfl, rfl, HR, HB⟩ := hrel
  have hsl := qFZ _ HR.out
  have hhl := hdS_len l.length h1
  have hsb := Si.add_bd _ HR.out
  rw [List.length_take] at hsl hsb
  have hdl : (hdS l.length ++ tlS (l.take k)).length <= 1000 := by rw [List.length_append]; unfold tlS; omega
  by_cases hlt : k < l.length
  ·have hk' : (k : Int) < l.length := by omega
   obtain ⟨hrg, _, hcl⟩ := id HL.out
   obtain ⟨b, o, rfl, hbl, hcell⟩ := hcl (by omega)
   have r0 := hcell k hlt
   obtain ⟨hn0, hn1⟩ := hrg l[k] (List.getElem_mem _)
   obtain ⟨n, hn⟩ : ∃ n, l[k] = n := ⟨_, rfl⟩
   rw [hn] at r0 hn0 hn1
   replace r0 := (HB.out.cell (by show b < w.heap.size; exact hbl)).trans r0
   have hbr : b < wr.heap.size := Nat.lt_of_lt_of_le hbl HB.out.size
   clear hcell hcl hrg
   by_cases q0 : n < 0
   ·go_wp2_with fail
    go_ret
    exact ⟨rfl, HB.out⟩
   ·by_cases q1 : 1000000 < n
    ·go_wp2_with fail
     go_ret
     exact ⟨rfl, HB.out⟩
    ·have HT : Hid (hdS l.length ++ tlS (l.take (k + 1)) = (hdS l.length ++ tlS (l.take k)) ++ (qCY n ++ [10])) := by
      unfold Hid
      rw [List.take_succ_eq_append_getElem hlt, hn, tlS_snoc, List.append_assoc]
     have HU : Hid (Si.qBL (l.take (k + 1)) = Si.qBL (l.take k) + n) := by
      unfold Hid
      rw [List.take_succ_eq_append_getElem hlt, hn, Si.qFv]
     have HR2 : Hid (∀ n, n ∈ l.take (k + 1) -> 0 <= n /\ n <= 1000000) := by
      unfold Hid
      rw [List.take_succ_eq_append_getElem hlt, hn]
      intro m hm
      rcases List.mem_append.1 hm with hm | hm
      ·exact HR.out m hm
      ·obtain rfl := List.mem_singleton.1 hm
       omega
     have HIT := Lib.hid fun W (hb : Below w.heap.size w W) => qL1 n hn0 hn1 W (HA.out.gl.below hb HA.out.gl.sz)
     have hil2 := Lib.itoa_length_le n hn0 hn1
     have HIE : Hid (qCY n = [46, 108, 111, 110, 103, 32] ++ Lib.itoa n) := rfl
     have hkm : (min k l.length : Nat) <= 20 := by omega
     have hs0 : 0 <= Si.qBL (l.take k) := hsb.1
     have hs1 : Si.qBL (l.take k) <= 20000000 := by omega
     clear hsb hsl
     generalize Lib.itoa n = it at *
     generalize hdS l.length ++ tlS (l.take k) = ds at *
     generalize Si.qBL (l.take k) = S at *
     go_wp2_with (go_at_call 7; refine (HIT.out _ HB.out).mono ?_; rintro e w3 ⟨rfl, hb3⟩; have HB3 := Lib.hid (HB.out.trans (hb3.mono HB.out.size)); clear hb3)
     refine ⟨⟨k + 1, by omega, by go_num, ?_, ?_, HR2, HB3⟩, by simp [intOf]; omega⟩
     ·rw [HU.out]
     ·rw [HT.out, HIE.out]
      exact congrArg Value.string (ByteArray.ext (by simp [ByteArray.data_append]))
  ·obtain rfl : k = l.length := by omega
   have hk' : ¬ ((l.length : Nat) : Int) < l.length := by omega
   rw [List.take_length] at *
   have HTO : Hid (∀ W lb lc, Below w.heap.size w W -> W.heap[lb]? = some (.cells #[.string ⟨(hdS l.length ++ tlS l).toArray⟩] 9 (0, 0)) -> Calls Tryz.prog 8 #[.int .i64 base, .slice (some ⟨lb, 0, none⟩) 1 lc] W fun e w' => (∃ ta tc, e = .returned (.tuple #[.slice ta 1 tc, .int .i64 0]) /\ Si.TRd w' ta [Si.qBL l]) /\ Below W.heap.size W w') := fun W lb lc hW hs => by
    rw [<- sumS_eq] at hs
    exact qIe (sumS l) (qBR l) base _ _ _ lb lc W (says_sum base l hb0 hb1 hb4 h0 h1 HR.out W (HA.out.next hW)) (HA.out.next hW).isa hs
   clear hsl hsb
   generalize hdS l.length ++ tlS l = ds at *
   generalize Si.qBL l = S at *
   go_wp2_with fail
   refine (HTO.out _ _ _ (HB.out.trans ((qD _ _).mono HB.out.size)) (qI _ _ rfl)).mono ?_
   rintro e w4 ⟨⟨ta, tc, rfl, htr⟩, hb4'⟩
   obtain ⟨bb, off, rfl, hlt2, hc⟩ := htr (by simp)
   have c0 : w4.cell? ⟨bb, off, none⟩ = some (.int .i64 S) := hc 0 (by simp)
   have HB4 := Lib.hid ((HB.out.trans ((qD wr _).mono HB.out.size)).trans (hb4'.mono (Nat.le_trans HB.out.size (by simp))))
   clear hb4' hc HTO HS
   go_wp2_with fail
   go_ret
   exact ⟨by simp, HB4.out⟩
theorem sum_any (a : Option Addr) (cap : Nat) (l : List Int) (base : Int) (w : World) (hA : qAL w) (hl : IRd w a l) :
  Calls Tryz.prog 3 #[.slice a l.length cap, .int .i64 base] w fun e w' => e = .returned (.bool true) /\ Below w.heap.size w w' := by
 by_cases h : 1 <= l.length /\ l.length <= 20 /\ 0 <= base /\ base <= 4000 /\ base % 4 = 0
 ·exact sum_in a cap l base w hA hl h.1 h.2.1 h.2.2.1 h.2.2.2.1 h.2.2.2.2
 ·have HAL := Lib.hid (palive2 w hA)
  have hln := hl.2.1
  clear hA hl
  have h5 : (l.length : Int) < 1 \/ (1 <= (l.length : Int) /\ 20 < (l.length : Int)) \/ (1 <= (l.length : Int) /\ (l.length : Int) <= 20 /\ base < 0) \/ (1 <= (l.length : Int) /\ (l.length : Int) <= 20 /\ 0 <= base /\ 4000 < base) \/ (1 <= (l.length : Int) /\ (l.length : Int) <= 20 /\ 0 <= base /\ base <= 4000 /\ base % 4 ≠ 0) := by omega
  clear h
  rcases h5 with h1 | ⟨h1, h2⟩ | ⟨h1, h2, h3⟩ | ⟨h1, h2, h3, h4⟩ | ⟨h1, h2, h3, h4, h5⟩
  case inr.inr.inr.inr =>
   have h6 : (base % 4 != 0) = true := by simpa using h5
   clear h5
   go_enter Tryz.func3, Tryz.ntmps3
   go_wp2_with (first | (go_at_call 6; refine HAL.out.mono ?_; rintro e w1 ⟨rfl, hb1⟩; have HB1 := Lib.hid hb1; clear hb1))
   go_ret
   exact ⟨rfl, HB1.out⟩
  all_goals
   go_enter Tryz.func3, Tryz.ntmps3
   go_wp2_with (first | (go_at_call 6; refine HAL.out.mono ?_; rintro e w1 ⟨rfl, hb1⟩; have HB1 := Lib.hid hb1; clear hb1))
   go_ret
   exact ⟨rfl, HB1.out⟩
end Go.Proofs.YtfmljailbebfgaaGreatDoor
