import Derived.Test.YtgjmbjahgcndnaaGreatDoorPut39
import Derived.Test.YtgjmbjahgcndnaaGreatDoorPut34
set_option maxHeartbeats 8000000
set_option maxRecDepth 100000
namespace Go.Proofs.YtgjmbjahgcndnaaGreatDoor
open Go.RowKit Go.Maps Go.MapKept
structure qAi (w : World) : Prop where
 isa : Isa.Laid w
 frm : qGf w
 ex : Xp.qAT w
 gl : Sc.Glob w
def IRd (w : World) (a : Option Addr) (l : List Int) : Prop := (∀ n, n ∈ l -> -9223372036854775808 <= n /\ n <= 9223372036854775807) /\ l.length <= 140737488351232 /\ (0 < l.length -> ∃ b o, a = some ⟨b, o, none⟩ /\ b < w.heap.size /\ ∀ i (h : i < l.length), w.cell? ⟨b, o + i, none⟩ = some (.int .i64 l[i]))
theorem qAi.next {w w' : World} (h : qAi w) (hb : Below w.heap.size w w') : qAi w' := ⟨h.isa.below hb h.isa.sz, h.frm.below hb h.frm.sz, KL.below h.ex hb, h.gl.below hb h.gl.sz⟩
theorem itoa_of (n : Int) (h0 : -9223372036854775808 <= n) (h1 : n <= 9223372036854775807) (w : World) (hG : Sc.Glob w) :
  Calls Tryz.prog 5 #[.int .i64 n] w fun e w' => e = .returned (.string ⟨(Lib.itoa n).toArray⟩) /\ Below w.heap.size w w' := by
 refine (Tryz.strconv_Itoa n h0 h1 w hG.tab).mono ?_
 rintro e w' ⟨rfl, k, os, rfl⟩
 exact ⟨rfl, Lib.below_grow _ w (Nat.le_refl _) k os⟩
end Go.Proofs.YtgjmbjahgcndnaaGreatDoor
namespace Go.Proofs.YtgjmbjahgcndnaaGreatDoor
open Go.RowKit
theorem labels_x (gu : Nat) (v : Value) (x y : Tk) (r : List Pc) (w : World) (h : qY w v (pc x :: pc y :: r)) (hl2 : (x.k == 1 && (y.k == 3 && y.t.toList == [58])) = false) :
  Calls Tryz.prog 89 #[.pointer (some ⟨gu, 0, none⟩), v] w fun r w' => r = .returned (.tuple #[v, .int .i64 0]) /\ Below w.heap.size w w' := by
 have HN := Lib.hid fun W (hb : Below w.heap.size w W) => xnext v x (pc y :: r) W W (h.below hb (Nat.le_refl _)) (Below.refl _ _)
 have HN2 := Lib.hid fun v' W (_ : Below w.heap.size w W) (hv : qY W v' (pc y :: r)) => xnext v' y r W W hv (Below.refl _ _)
 have HW := Lib.hid fun W => qDD x.k x.n x.t W
 have HS := Lib.hid fun W => qBq y.k y.n y.t ⟨#[58]⟩ W
 have e58 : (⟨#[58]⟩ : ByteArray).toList = [58] := by simp [ByteArray.toList_eq]
 rw [e58] at HS
 clear e58
 obtain ⟨ad, cap, rfl, _⟩ := h
 generalize ((x.k == 1) : Bool) = p1 at *
 generalize ((y.k == 3 && y.t.toList == [58]) : Bool) = p2 at *
 obtain ⟨xk, xn, xt⟩ := x
 obtain ⟨yk, yn, yt⟩ := y
 unfold Tk.V tokV at *
 simp only [List.length_cons] at *
 go_enter Tryz.func89, Tryz.ntmps89
 go_wp2_with fail
 refine wp_loop_rounds 1 ?_
 rw [rounds_succ]
 go_wp2_with fail
 refine (HN.out _ (Below.refl _ _)).mono ?_
 rintro e w1 ⟨⟨v', rfl, hv⟩, hb1⟩
 obtain ⟨ad', cap', rfl, _⟩ := id hv
 have HV := Lib.hid hv
 have HB1 := Lib.hid hb1
 clear hv hb1 HN
 go_wp2_with fail
 refine (HN2.out _ _ (HB1.out.alloc HB1.out.size _) (HV.out.below (HB1.out.alloc HB1.out.size _) (Nat.le_refl _))).mono ?_
 rintro e w2 ⟨⟨v2, rfl, hv2⟩, hb2⟩
 obtain ⟨ad2, cap2, rfl, _⟩ := hv2
 obtain ⟨hB2, hz2, xr⟩ := qS hb2
 have t0 : w2.cell? ⟨w1.heap.size, 0, none⟩ = some (.int .i64 xk) := qB xr rfl
 have t1 : w2.cell? ⟨w1.heap.size, 1, none⟩ = some (.int .i64 xn) := qB xr rfl
 have t2 : w2.cell? ⟨w1.heap.size, 2, none⟩ = some (.string xt) := qB xr rfl
 have HB2 := Lib.hid (HB1.out.trans (hB2.mono HB1.out.size))
 clear hb2 hB2 xr HB1 HN2 HV
 cases p1
 ·go_wp2_with (first
   | (go_at_call 91; refine (HW.out _).mono ?_; rintro e w3 ⟨rfl, hb3⟩; have HB3 : Hid (Below w.heap.size w w3) := Below.trans (by have hb := HB2.out; have := HB2.out.size; go_grown) (hb3.mono (by have := HB2.out.size; go_size)); clear hb3)
   | fail)
  go_ret2
  exact ⟨rfl, HB3.out⟩
 ·have hp2 : p2 = false := by simpa using hl2
  subst hp2
  go_wp2_with (first
   | (go_at_call 91; refine (HW.out _).mono ?_; rintro e w3 ⟨rfl, hb3⟩; obtain ⟨hB3, hz3, yr⟩ := qS hb3; have s0 : w3.cell? ⟨w2.heap.size, 0, none⟩ = some (.int .i64 yk) := qB yr rfl; have s1 : w3.cell? ⟨w2.heap.size, 1, none⟩ = some (.int .i64 yn) := qB yr rfl; have s2 : w3.cell? ⟨w2.heap.size, 2, none⟩ = some (.string yt) := qB yr rfl; have HB3 : Hid (Below w.heap.size w w3) := HB2.out.trans (hB3.mono HB2.out.size); clear hb3 hB3 yr)
   | (go_at_call 125; refine (HS.out _).mono ?_; rintro e w4 ⟨rfl, hb4⟩; have HB4 : Hid (Below w.heap.size w w4) := HB3.out.trans (hb4.mono HB3.out.size); clear hb4))
  go_ret2
  exact ⟨rfl, HB4.out⟩
theorem qLd (gu : Nat) (v : Value) (hn : Int) (ht : ByteArray) (rest : List Pc) (ops : List Opd) (w0 w : World) (PL Q : World -> Prop)
  (hlab : Calls Tryz.prog 89 #[.pointer (some ⟨gu, 0, none⟩), v] w fun r w1 => ∃ v', r = .returned (.tuple #[v', .int .i64 0]) /\ qY w0 v' (pc ⟨1, hn, ht⟩ :: rest) /\ PL w1)
  (hst : ∀ W W', PL W -> Below W.heap.size W W' -> PL W') (hB : ∀ W, PL W -> Below w0.heap.size w0 W)
  (hop : ∀ W v2, PL W -> qY w0 v2 rest -> Calls Tryz.prog 92 #[.pointer (some ⟨gu, 0, none⟩), v2] W fun r w' => (∃ oa oc, r = .returned (.tuple #[.slice oa ops.length oc, .int .i64 0]) /\ OpsR w' oa ops) /\ Below W.heap.size W w')
  (hs : ∀ W oa oc, PL W -> OpsR W oa ops -> Calls Tryz.prog 93 #[.pointer (some ⟨gu, 0, none⟩), .string ht, .slice oa ops.length oc] W fun r w' => r = .returned (.int .i64 0) /\ Q w') (hv : ∃ ad l c, v = .slice ad l c) :
  Calls Tryz.prog 71 #[.pointer (some ⟨gu, 0, none⟩), v] w fun r w' => r = .returned (.int .i64 0) /\ Q w' := by
 have HLB := Lib.hid hlab
 have HN := Lib.hid fun v' W (hp : PL W) (hv : qY w0 v' (pc ⟨1, hn, ht⟩ :: rest)) => xnext v' ⟨1, hn, ht⟩ rest w0 W hv (hB W hp)
 have HAW := Lib.hid fun W => qDD 1 hn ht W
 have HOP := Lib.hid hop
 have HST := Lib.hid hs
 have HGO := Lib.hid hst
 obtain ⟨ad, vl, vc, rfl⟩ := hv
 clear hlab hop hs hst hB
 unfold Tk.V tokV at *
 go_enter Tryz.func71, Tryz.ntmps71
 go_wp2_with fail
 refine HLB.out.mono ?_
 rintro e w1 ⟨v1, rfl, hv1, hp1⟩
 obtain ⟨ad1, cap1, hv1s, _⟩ := id hv1
 simp only [List.length_cons] at hv1s
 subst hv1s
 have HV1 := Lib.hid hv1
 have HP1 := Lib.hid hp1
 clear hv1 hp1 HLB
 go_wp2_with fail
 refine (HN.out _ _ HP1.out HV1.out).mono ?_
 rintro e w2 ⟨⟨v2, rfl, hv2⟩, hb2⟩
 obtain ⟨ad2, cap2, hv2s, _⟩ := id hv2
 subst hv2s
 have HV2 := Lib.hid hv2
 have HP2 := Lib.hid (HGO.out _ _ HP1.out hb2)
 clear hv2 hb2 HN HP1
 go_wp2_with fail
 refine (HAW.out _).mono ?_
 rintro e w3 ⟨rfl, hb3⟩
 obtain ⟨hB3, hz3, xr⟩ := qS hb3
 have HP3 := Lib.hid (HGO.out _ _ HP2.out hB3)
 have XR := Lib.hid xr
 clear hb3 hB3 xr HP2
 go_wp2_with fail
 refine (HOP.out _ _ HP3.out HV2.out).mono ?_
 rintro e w4 ⟨⟨oa, oc, rfl, ho4⟩, hb4⟩
 have xr4 := (hb4.block _ hz3).trans XR.out
 have t2 : w4.cell? ⟨w2.heap.size, 2, none⟩ = some (.string ht) := qB xr4 rfl
 have hz4 := qC xr4
 have HC := Lib.hid (HST.out w4 oa oc (HGO.out _ _ HP3.out hb4) ho4)
 clear ho4 hb4 xr4 XR HST HOP HAW HP3 HV1 HV2
 go_wp2_with (first | (go_at_call 93; refine HC.out.mono ?_; rintro e w5 ⟨rfl, hq⟩) | fail)
 go_ret
 exact ⟨rfl, hq⟩
def LX (W : World) (v : Value) (n : Nat) (pos : Nat -> Int) (RD : Nat -> Value -> Prop) : Prop :=
 ∃ ad cap, v = .slice ad n cap /\ n <= maxLen /\ (0 < n -> ∃ b o, ad = some ⟨b, o, none⟩ /\ b < W.heap.size /\ ∀ i, i < n -> ∃ td tn tc, W.cell? ⟨b, o + i * 2, none⟩ = some (.slice td tn tc) /\ W.cell? ⟨b, o + i * 2 + 1, none⟩ = some (.int .i64 (pos i)) /\ RD i (.slice td tn tc))
structure MakesX (w : World) (gu n : Nat) (pos : Nat -> Int) (RD : Nat -> Value -> Prop) (o : Ob) (W1 : World) : Prop where
 ex : ∃ (ST : Nat -> World -> Prop) (E F : World -> Prop), ST 0 W1 /\ (∀ k W, ST k W -> Bx w W /\ ∃ c, W.heap[gu]? = some (.cells c 141 (0, 0)) /\ (∃ z, c[1]? = some (.int .i64 z))) /\
  (∀ k (_ : k < n) W v, ST k W -> RD k v -> Calls Tryz.prog 71 #[.pointer (some ⟨gu, 0, none⟩), v] ((W.setCell ⟨gu, 1, none⟩ (.int .i64 (pos k))).alloc (.cells #[v, .int .i64 (pos k)] 145)) fun r w' => r = .returned (.int .i64 0) /\ ST (k + 1) w') /\
  (∀ W, ST n W -> Calls Tryz.prog 72 #[.pointer (some ⟨gu, 0, none⟩)] W fun r w' => r = .returned (.tuple #[]) /\ E w') /\
  (∀ W, E W -> Calls Tryz.prog 73 #[.pointer (some ⟨gu, 0, none⟩)] W fun r w' => r = .returned (.int .i64 0) /\ F w') /\
  (∀ W, F W -> Calls Tryz.prog 74 #[.pointer (some ⟨gu, 0, none⟩)] W fun r w' => ∃ ca cl cc sa sl sc qa ql qc, r = .returned (.tuple #[.agg #[.slice ca cl cc, .slice sa sl sc, .slice qa ql qc], .agg #[.int .i64 0, .int .i64 0]]) /\ qB1 w' (.slice ca cl cc) (.slice sa sl sc) (.slice qa ql qc) o /\ Bx w w')
theorem qHr (v : Value) (n : Nat) (pos : Nat -> Int) (RD : Nat -> Value -> Prop) (o : Ob) (w : World) (h : LX w v n pos RD) (hn : n <= 1000) (hall : ∀ gu mb gp mi W1, qLy w W1 gu mb gp mi -> MakesX w gu n pos RD o W1) :
  Calls Tryz.prog 44 #[v, .slice none 0 0] w fun r w' => (∃ ca cl cc sa sl sc qa ql qc, r = .returned (.tuple #[.agg #[.slice ca cl cc, .slice sa sl sc, .slice qa ql qc], .agg #[.int .i64 0, .int .i64 0]]) /\ qB1 w' (.slice ca cl cc) (.slice sa sl sc) (.slice qa ql qc) o) /\ Below w.heap.size w w' := by
 have HALL := Lib.hid hall
 clear hall
 have hmm : ∀ w, (Instr.makeMap 89 none).run Tryz.prog w = .ok (.map (some w.heap.size)) (w.alloc (.map #[] 0)) := fun w => rfl
 obtain ⟨va, vc, rfl, _⟩ := id h
 have HV := Lib.hid h
 clear h
 go_enter Tryz.func44, Tryz.ntmps44
 go_wp2_with fail
 refine (qFm _).mono ?_
 rintro e w1 ⟨rfl, rfl⟩
 go_wp2_with fail
 obtain ⟨W1, hW1⟩ : ∃ X, X = ((((((w.alloc (.cells #[.slice none 0 0, .slice none 0 0, .slice none 0 0] 49)).alloc (.cells #[.int .i64 0, .int .i64 0] 36)).alloc (.map #[] 0)).alloc (.map #[] 0)).alloc (.cells #[.int .i64 0, .slice none 0 0, .map (some (w.heap.size + 1 + 1 + 1))] 184)).alloc (.cells #[.slice none 0 0, .int .i64 0, .slice none 0 0, .map (some (w.heap.size + 1 + 1)), .slice none 0 0, .pointer (some ⟨w.heap.size + 1 + 1 + 1 + 1, 0, none⟩), .slice none 0 0, .slice none 0 0] 141)) := ⟨_, rfl⟩
 have hz : W1.heap.size = w.heap.size + 1 + 1 + 1 + 1 + 1 + 1 := by rw [hW1]; simp
 have hbeg : qLy w W1 (w.heap.size + 1 + 1 + 1 + 1 + 1) (w.heap.size + 1 + 1) (w.heap.size + 1 + 1 + 1 + 1) (w.heap.size + 1 + 1 + 1) := by
  refine ⟨⟨?_, ?_, ?_⟩, ⟨by omega, by omega, .slice none 0 0, [], ?_, World.ownsRow_nil _ _ _ _, rfl, fun p hp => by simp at hp⟩, ?_, ?_, ?_, by omega, by omega, by omega⟩
  ·rw [hW1]; go_grown
  ·rw [hW1, old2 _ _ (by go_size), old2 _ _ (by go_size), old2 _ _ (by go_size), old2 _ _ (by go_size), old2 _ _ (by go_size)]; exact qH _ _ rfl
  ·rw [hW1, old2 _ _ (by go_size), old2 _ _ (by go_size), old2 _ _ (by go_size), old2 _ _ (by go_size)]; exact qH _ _ (by go_size)
  ·rw [hW1]; exact qH _ _ (by go_size)
  ·rw [hW1, old2 _ _ (by go_size), old2 _ _ (by go_size), old2 _ _ (by go_size)]; exact qH _ _ (by go_size)
  ·rw [hW1, old2 _ _ (by go_size)]; exact qH _ _ (by go_size)
  ·rw [hW1, old2 _ _ (by go_size), old2 _ _ (by go_size)]; exact qH _ _ (by go_size)
 obtain ⟨ST, E, F, h0, hbx, hrd, hen, hly, hwr⟩ := (HALL.out _ _ _ _ W1 hbeg).ex
 rw [<- hW1]
 obtain ⟨gu, hgu⟩ : ∃ gu, gu = w.heap.size + 1 + 1 + 1 + 1 + 1 := ⟨_, rfl⟩
 rw [<- hgu] at hbx hrd hen hly hwr ⊢
 have hg0 : w.heap.size + 2 <= gu := by omega
 have HBX := Lib.hid hbx
 have HRD := Lib.hid hrd
 have HEN := Lib.hid hen
 have HLY := Lib.hid hly
 have HWR := Lib.hid hwr
 have H0 := Lib.hid h0
 clear hW1 hz hbeg hbx hrd hen hly hwr h0 HALL hmm hgu
 go_loopw [17] (fun iv wr => ∃ k : Nat, k <= n /\ iv = .int .i64 k /\ Hid (ST k wr)) (fun iv _ => n - (intOf iv).toNat)
 case atStart => exact ⟨0, Nat.zero_le _, rfl, H0⟩
 case round =>
  obtain ⟨k, hk, rfl, HS⟩ := hrel
  obtain ⟨hbxk, cU, hcu, z, hz⟩ := HBX.out k wr HS.out
  by_cases hlt : k < n
  ·have hk' : (k : Int) < n := by omega
   obtain ⟨va', vc', ev, _, hcl⟩ := id HV.out
   injection ev with e1 _ e3
   subst e1 e3
   obtain ⟨b, o', rfl, hbl, hcell⟩ := hcl (by omega)
   obtain ⟨td, tn, tc, r0, r1, r2⟩ := hcell k hlt
   have HC := Lib.hid (HRD.out k hlt wr _ HS.out r2)
   generalize pos k = p at *
   have c1 : wr.cell? ⟨gu, 1, none⟩ = some (.int .i64 z) := qB hcu hz
   have f1 : wr.frozen? ⟨gu, 1, none⟩ = false := qD hcu
   have hgw := qC hcu
   have hBw := hbxk.bel
   replace r0 := (hBw.cell (by show b < w.heap.size; exact hbl)).trans r0
   replace r1 := (hBw.cell (by show b < w.heap.size; exact hbl)).trans r1
   have hbr : b < wr.heap.size := Nat.lt_of_lt_of_le hbl hBw.size
   have hbn : b ≠ gu := by omega
   clear r2 hBw hcell hcl hbxk hcu hz
   go_wp2_with (first | (go_at_call 71; refine HC.out.mono ?_; rintro e' w3 ⟨rfl, hs3⟩; have HS3 := Lib.hid hs3; clear hs3) | fail)
   exact ⟨⟨k + 1, by omega, by go_num, HS3⟩, by simp [intOf]; omega⟩
  ·have hkn : n = k := by omega
   subst hkn
   have hk' : ¬ ((n : Nat) : Int) < n := by omega
   have HE := Lib.hid (HEN.out wr HS.out)
   clear hbxk hcu hz
   go_wp2_with (first
    | (go_at_call 72; refine HE.out.mono ?_; rintro e' w4 ⟨rfl, hE4⟩)
    | fail)
   refine (HLY.out _ hE4).mono ?_
   rintro e' w5 ⟨rfl, hF5⟩
   have HC := Lib.hid (HWR.out _ hF5)
   clear hF5 hE4 HE HLY HEN HWR HRD HBX
   go_wp2_with (first | (go_at_call 74; refine HC.out.mono ?_; rintro e' w6 ⟨ca, cl, cc, sa, sl, sc, qa, ql, qc, rfl, hob, hbx6⟩; have z0 := hbx6.x0; have z1 := hbx6.x1; have g0 : w6.cell? ⟨w.heap.size, 0, none⟩ = some (.slice none 0 0) := qB z0 rfl; have g1 : w6.cell? ⟨w.heap.size, 1, none⟩ = some (.slice none 0 0) := qB z0 rfl; have g2 : w6.cell? ⟨w.heap.size, 2, none⟩ = some (.slice none 0 0) := qB z0 rfl; have q0 : w6.frozen? ⟨w.heap.size, 0, none⟩ = false := qD z0; have q1 : w6.frozen? ⟨w.heap.size, 1, none⟩ = false := qD z0; have q2 : w6.frozen? ⟨w.heap.size, 2, none⟩ = false := qD z0; obtain ⟨⟨u0, u1⟩, t0, t1⟩ := qo z1; have HOB := Lib.hid hob; have HB6 := Lib.hid hbx6.bel; have Z0 := Lib.hid z0; have Z1 := Lib.hid z1; have zz := qC z1; clear hob hbx6 z0 z1) | fail)
   have n3 : ∀ (x y z : Option Addr) (a b c d e f : Nat) (j : Nat) (n : Int), (#[Value.slice x a b, .slice y c d, .slice z e f] : Array Value)[j]? ≠ some (.int .u8 n) := by
    intro x y z a b c d e f j n h
    rcases j with _ | _ | _ | j <;> simp at h
   have m3 : ∀ (x y z : Option Addr) (a b c d e f : Nat) (j : Nat) (n : ByteArray), (#[Value.slice x a b, .slice y c d, .slice z e f] : Array Value)[j]? ≠ some (.string n) := by
    intro x y z a b c d e f j n h
    rcases j with _ | _ | _ | j <;> simp at h
   have n2 : ∀ (a b : Int) (j : Nat) (n : Int), (#[Value.int .i64 a, .int .i64 b] : Array Value)[j]? ≠ some (.int .u8 n) := by
    intro a b j n h
    rcases j with _ | _ | j <;> simp at h
   have m2 : ∀ (a b : Int) (j : Nat) (n : ByteArray), (#[Value.int .i64 a, .int .i64 b] : Array Value)[j]? ≠ some (.string n) := by
    intro a b j n h
    rcases j with _ | _ | j <;> simp at h
   have o1 := HOB.out.set (i := 0) (v := .slice ca cl cc) Z0.out (m3 _ _ _ _ _ _ _ _ _) (n3 _ _ _ _ _ _ _ _ _)
   have z1 := qJ (i := 0) (v := .slice ca cl cc) Z0.out
   have o2 := o1.set (i := 1) (v := .slice sa sl sc) z1 (m3 _ _ _ _ _ _ _ _ _) (n3 _ _ _ _ _ _ _ _ _)
   have z2 := qJ (i := 1) (v := .slice sa sl sc) z1
   have o3 := o2.set (i := 2) (v := .slice qa ql qc) z2 (m3 _ _ _ _ _ _ _ _ _) (n3 _ _ _ _ _ _ _ _ _)
   have Z1b : (((w6.setCell ⟨w.heap.size, 0, none⟩ (.slice ca cl cc)).setCell ⟨w.heap.size, 1, none⟩ (.slice sa sl sc)).setCell ⟨w.heap.size, 2, none⟩ (.slice qa ql qc)).heap[w.heap.size + 1]? = some (.cells #[.int .i64 0, .int .i64 0] 36 (0, 0)) := by
    rw [Below.heap_setCell _ _ _ _ (by show w.heap.size + 1 ≠ w.heap.size; omega), Below.heap_setCell _ _ _ _ (by show w.heap.size + 1 ≠ w.heap.size; omega), Below.heap_setCell _ _ _ _ (by show w.heap.size + 1 ≠ w.heap.size; omega)]
    exact Z1.out
   have o4 := o3.set (i := 0) (v := .int .i64 0) Z1b (m2 _ _) (n2 _ _)
   have o5 := o4.set (i := 1) (v := .int .i64 0) (qJ (i := 0) (v := .int .i64 0) Z1b) (m2 _ _) (n2 _ _)
   exact bodyPost_ret (v := .tuple #[.agg #[.slice ca cl cc, .slice sa sl sc, .slice qa ql qc], .agg #[.int .i64 0, .int .i64 0]]) (by simp [results, Tryz.results44, go_sem, g0, g1, g2, u0, u1]) rfl ⟨⟨ca, cl, cc, sa, sl, sc, qa, ql, qc, rfl, o5⟩, ((((HB6.out.setCell (Nat.le_refl _) _).setCell (Nat.le_refl _) _).setCell (Nat.le_refl _) _).setCell (Nat.le_succ _) _).setCell (Nat.le_succ _) _⟩
theorem qKM (v : Value) (src : List UInt8) (lns : List Sc.Ln) (o : Ob) (w : World) (LR : World -> Value -> Prop) (hv : Sc.qBL w v src) (hsrc : Sc.qAJ src = .ok lns) (hG : Sc.Glob w)
  (hLR : ∀ W v, LR W v -> ∃ a n c, v = .slice a n c) (hgo : ∀ W W' v, LR W v -> Below W.heap.size W W' -> LR W' v)
  (hsh : ∀ v W, Below w.heap.size w W -> LIn W v lns -> Calls Tryz.prog 43 #[v] W fun r w' => (∃ lv, r = .returned (.tuple #[lv, .slice none 0 0, .agg #[.int .i64 0, .int .i64 0]]) /\ LR w' lv) /\ Below W.heap.size W w')
  (hbd : ∀ v W, Below w.heap.size w W -> LR W v -> Calls Tryz.prog 44 #[v, .slice none 0 0] W fun r w' => (∃ ca cl cc sa sl sc qa ql qc, r = .returned (.tuple #[.agg #[.slice ca cl cc, .slice sa sl sc, .slice qa ql qc], .agg #[.int .i64 0, .int .i64 0]]) /\ qB1 w' (.slice ca cl cc) (.slice sa sl sc) (.slice qa ql qc) o) /\ Below W.heap.size W w') :
  Calls Tryz.prog 23 #[v] w fun r w' => (∃ ca cl cc sa sl sc qa ql qc, r = .returned (.tuple #[.agg #[.slice ca cl cc, .slice sa sl sc, .slice qa ql qc], .agg #[.int .i64 0, .int .i64 0]]) /\ qB1 w' (.slice ca cl cc) (.slice sa sl sc) (.slice qa ql qc) o) /\ Below w.heap.size w w' := by
 have hs := Sc.src_ok hsrc
 have HLN := Lib.hid fun W (hb : Below w.heap.size w W) => Sc.qJ1 v (src) W (hG.below hb hG.sz) (by
  obtain ⟨ad, cap, rfl, hm, hc⟩ := hv
  refine ⟨ad, cap, rfl, hm, fun h0 => ?_⟩
  obtain ⟨b, o, rfl, hlt, hcell⟩ := hc h0
  exact ⟨b, o, rfl, Nat.lt_of_lt_of_le hlt hb.size, fun i hi => by rw [hb.cell (by exact hlt)]; exact hcell i hi⟩)
 obtain ⟨ad, cap, rfl, _⟩ := hv
 obtain ⟨hs1, hs2, hs3⟩ := hs
 have HSH := Lib.hid hsh
 have HLR0 := Lib.hid hLR
 have HGO := Lib.hid hgo
 have HBD := Lib.hid hbd
 clear hG hbd hsh hLR hgo
 go_enter Tryz.func23, Tryz.ntmps23
 go_wp2_with fail
 refine (HLN.out _ (by go_grown)).mono ?_
 rintro e w1 ⟨⟨lv, ps, rfl, hps, hlo⟩, hb1⟩
 rw [hs1, hs2]
 rw [hs3] at hps
 have hlin := lin_of hlo
 rw [hps] at hlin
 obtain ⟨la, lc, hlv⟩ := qG hlo.row
 subst hlv
 have x0 : w1.heap[w.heap.size]? = some (.cells #[.slice none 0 0, .slice none 0 0, .slice none 0 0] 49 (0, 0)) := by
  rw [hb1.block _ (by go_size), old2 _ _ (by go_size)]
  exact qH _ _ rfl
 have x1 : w1.heap[w.heap.size + 1]? = some (.cells #[.int .i64 0, .int .i64 0] 36 (0, 0)) := by
  rw [hb1.block _ (by go_size)]
  exact qH _ _ (by go_size)
 have HB1 : Hid (Below w.heap.size w w1) := Below.trans (by go_grown) (hb1.mono (by go_size))
 have HSC := Lib.hid fun W (hb : Below w1.heap.size w1 W) => HSH.out (.slice la ps.length lc) W (HB1.out.trans (hb.mono HB1.out.size)) (by
  obtain ⟨ad', cap', e, hh⟩ := hlin
  refine ⟨ad', cap', e, fun h0 => ?_⟩
  obtain ⟨b, o, rfl, hlt, hc⟩ := hh h0
  refine ⟨b, o, rfl, Nat.lt_of_lt_of_le hlt hb.size, fun i hi => ?_⟩
  obtain ⟨tv, a1, a2, a3⟩ := hc i hi
  exact ⟨tv, by rw [hb.cell (by exact hlt)]; exact a1, by rw [hb.cell (by exact hlt)]; exact a2, a3.below hb (Nat.le_refl _)⟩)
 have X0 := Lib.hid x0
 have X1 := Lib.hid x1
 clear hb1 hlo hlin hps x0 x1 HLN HSH hs1 hs2 hs3
 go_wp2_with fail
 refine (HSC.out _ (qE _ _)).mono ?_
 rintro e w2 ⟨⟨sv, rfl, hlr⟩, hb2⟩
 obtain ⟨sa, sn, sc, hsv⟩ := HLR0.out _ _ hlr
 subst hsv
 obtain ⟨hB2, hz2, yr⟩ := qS hb2
 have HB2 := Lib.hid (HB1.out.trans (hB2.mono HB1.out.size))
 have X02 := Lib.hid ((hB2.block _ (qC X0.out)).trans X0.out)
 have X12 := Lib.hid ((hB2.block _ (qC X1.out)).trans X1.out)
 have HLR := Lib.hid hlr
 have YR := Lib.hid yr
 obtain ⟨⟨u0, u1⟩, f0, f1⟩ := qo yr
 clear hb2 hB2 yr hlr HSC X0 X1 HB1
 go_wp2_with fail
 have hsame : Below w2.heap.size w2 ((w2.setCell ⟨w1.heap.size, 0, none⟩ (.int .i64 0)).setCell ⟨w1.heap.size, 1, none⟩ (.int .i64 0)) := (qX YR.out rfl).trans (qX (qAj YR.out rfl) rfl)
 have hlr3 := HGO.out _ _ _ HLR.out hsame
 refine (HBD.out _ _ (HB2.out.trans (hsame.mono HB2.out.size)) hlr3).mono ?_
 rintro e w6 ⟨⟨ca, cl, cc, sa', sl, sc', qa, ql, qc, rfl, hob⟩, hb6⟩
 have hb7 : Below w2.heap.size w2 w6 := hsame.trans (hb6.mono hsame.size)
 have z0 := (hb7.block _ (qC X02.out)).trans X02.out
 have z1 := (hb7.block _ (qC X12.out)).trans X12.out
 have g0 : w6.cell? ⟨w.heap.size, 0, none⟩ = some (.slice none 0 0) := qB z0 rfl
 have g1 : w6.cell? ⟨w.heap.size, 1, none⟩ = some (.slice none 0 0) := qB z0 rfl
 have g2 : w6.cell? ⟨w.heap.size, 2, none⟩ = some (.slice none 0 0) := qB z0 rfl
 have q0 : w6.frozen? ⟨w.heap.size, 0, none⟩ = false := qD z0
 have q1 : w6.frozen? ⟨w.heap.size, 1, none⟩ = false := qD z0
 have q2 : w6.frozen? ⟨w.heap.size, 2, none⟩ = false := qD z0
 obtain ⟨⟨v0, v1⟩, t0, t1⟩ := qo z1
 have HOB := Lib.hid hob
 have HB6 := Lib.hid (HB2.out.trans (hb7.mono HB2.out.size))
 have Z0 := Lib.hid z0
 have Z1 := Lib.hid z1
 clear hob hb6 hb7 z0 z1 hsame hlr3 HBD HLR u0 u1 f0 f1
 go_wp2_with fail
 have n3 : ∀ (x y z : Option Addr) (a b c d e f : Nat) (j : Nat) (n : Int), (#[Value.slice x a b, .slice y c d, .slice z e f] : Array Value)[j]? ≠ some (.int .u8 n) := by
  intro x y z a b c d e f j n h
  rcases j with _ | _ | _ | j <;> simp at h
 have m3 : ∀ (x y z : Option Addr) (a b c d e f : Nat) (j : Nat) (n : ByteArray), (#[Value.slice x a b, .slice y c d, .slice z e f] : Array Value)[j]? ≠ some (.string n) := by
  intro x y z a b c d e f j n h
  rcases j with _ | _ | _ | j <;> simp at h
 have n2 : ∀ (a b : Int) (j : Nat) (n : Int), (#[Value.int .i64 a, .int .i64 b] : Array Value)[j]? ≠ some (.int .u8 n) := by
  intro a b j n h
  rcases j with _ | _ | j <;> simp at h
 have m2 : ∀ (a b : Int) (j : Nat) (n : ByteArray), (#[Value.int .i64 a, .int .i64 b] : Array Value)[j]? ≠ some (.string n) := by
  intro a b j n h
  rcases j with _ | _ | j <;> simp at h
 have o1 := HOB.out.set (i := 0) (v := .slice ca cl cc) Z0.out (m3 _ _ _ _ _ _ _ _ _) (n3 _ _ _ _ _ _ _ _ _)
 have z1 := qJ (i := 0) (v := .slice ca cl cc) Z0.out
 have o2 := o1.set (i := 1) (v := .slice sa' sl sc') z1 (m3 _ _ _ _ _ _ _ _ _) (n3 _ _ _ _ _ _ _ _ _)
 have z2 := qJ (i := 1) (v := .slice sa' sl sc') z1
 have o3 := o2.set (i := 2) (v := .slice qa ql qc) z2 (m3 _ _ _ _ _ _ _ _ _) (n3 _ _ _ _ _ _ _ _ _)
 have Z1b : (((w6.setCell ⟨w.heap.size, 0, none⟩ (.slice ca cl cc)).setCell ⟨w.heap.size, 1, none⟩ (.slice sa' sl sc')).setCell ⟨w.heap.size, 2, none⟩ (.slice qa ql qc)).heap[w.heap.size + 1]? = some (.cells #[.int .i64 0, .int .i64 0] 36 (0, 0)) := by
  rw [Below.heap_setCell _ _ _ _ (by show w.heap.size + 1 ≠ w.heap.size; omega), Below.heap_setCell _ _ _ _ (by show w.heap.size + 1 ≠ w.heap.size; omega), Below.heap_setCell _ _ _ _ (by show w.heap.size + 1 ≠ w.heap.size; omega)]
  exact Z1.out
 have o4 := o3.set (i := 0) (v := .int .i64 0) Z1b (m2 _ _) (n2 _ _)
 have o5 := o4.set (i := 1) (v := .int .i64 0) (qJ (i := 0) (v := .int .i64 0) Z1b) (m2 _ _) (n2 _ _)
 exact bodyPost_ret (v := .tuple #[.agg #[.slice ca cl cc, .slice sa' sl sc', .slice qa ql qc], .agg #[.int .i64 0, .int .i64 0]]) (by simp [results, Tryz.results23, go_sem, g0, g1, g2, v0, v1]) rfl ⟨⟨ca, cl, cc, sa', sl, sc', qa, ql, qc, rfl, o5⟩, ((((HB6.out.setCell (Nat.le_refl _) _).setCell (Nat.le_refl _) _).setCell (Nat.le_refl _) _).setCell (Nat.le_succ _) _).setCell (Nat.le_succ _) _⟩
end Go.Proofs.YtgjmbjahgcndnaaGreatDoor
namespace Go.Proofs.YtgjmbjahgcndnaaGreatDoor
open Go.RowKit Go.Maps Go.MapKept
def qBH : Tk := ⟨3, 0, ⟨#[44]⟩⟩
theorem qKN : qAV qBH = true := by simp [qAV, qBH, ByteArray.toList_eq]
theorem UR.same {W : World} {gu : Nat} {B : Nat} {e : Value} {ln : Int} {nv nv' lm pp pv rv : Value} {its : List It} (hn : UR W B gu e ln nv' lm pp pv rv its) (hu : UR W B gu e ln nv lm pp pv rv its) : nv' = nv := by
 obtain ⟨i1, l1, a1, _⟩ := hn.its
 obtain ⟨i2, l2, a2, _⟩ := hu.its
 have e := a1.symm.trans a2
 injection e with e
 injection e with e _
 have e2 := congrArg (fun a : Array Value => a[2]?) e
 simpa [uC] using e2
section
variable (w W : World) (gu mb gp mi : Nat) (v : Value) (ln : Int) (labs : List (List UInt8 × Nat)) (its : List It)
theorem find_bf : qB7 ⟨#[98, 102]⟩ ⟨#[112]⟩ 12 0 = 18 := by
 rw [qBt]
 kernel_rfl
end
inductive OpK where
 | reg (t : List UInt8)
 | num (n : Int)
 | neg (n : Int)
 | ind (t : List UInt8)
 | pool (nm : List UInt8)
 | name (nm : List UInt8)
def wd (t : List UInt8) : Tk := ⟨1, 0, ⟨t.toArray⟩⟩
def sg (c : UInt8) : Tk := ⟨3, 0, ⟨#[c]⟩⟩
def OpK.toks : OpK -> List Tk
 | .reg t => [wd t]
 | .num n => [sg 35, tkNum n]
 | .neg n => [sg 35, sg 45, tkNum n]
 | .ind t => [sg 64, wd t]
 | .pool nm => [sg 61, wd nm]
 | .name nm => [wd nm]
def OpK.opd : OpK -> Opd
 | .reg t => ⟨⟨#[114]⟩, regU 1 t, ⟨#[]⟩, 0⟩
 | .num n => ⟨⟨#[35]⟩, 0, ⟨#[]⟩, wrap32 n⟩
 | .neg n => ⟨⟨#[35]⟩, 0, ⟨#[]⟩, wrap32 (-wrap32 n)⟩
 | .ind t => ⟨⟨#[64]⟩, regU 1 t, ⟨#[]⟩, 0⟩
 | .pool nm => ⟨⟨#[61]⟩, 0, ⟨nm.toArray⟩, 0⟩
 | .name nm => ⟨⟨#[112]⟩, 0, ⟨nm.toArray⟩, 0⟩
def OpK.ok : OpK -> Prop
 | .reg t => 0 <= regU 1 t
 | .num _ => True
 | .neg _ => True
 | .ind t => 0 <= regU 1 t
 | .pool nm => Xp.qL nm = true
 | .name nm => Xp.qL nm = true /\ regU 1 nm < 0
def qBR : List OpK -> List Tk
 | [] => []
 | [a] => a.toks
 | a :: b :: r => a.toks ++ (qBH :: qBR (b :: r))
theorem qDs : ∀ (a cur r : List Tk), (∀ x, x ∈ a -> qAV x = false) -> qAO cur (a ++ r) = qAO (cur ++ a) r
 | [], cur, r, _ => by simp
 | x :: a, cur, r, h => by
   rw [List.cons_append, qAO, if_neg (by rw [h x (by simp)]; decide), qDs a _ r fun y hy => h y (by simp [hy]), List.append_assoc]
   rfl
theorem qCX (c : UInt8) (h : c ≠ 44) : qAV (sg c) = false := by
 simp [qAV, sg, ByteArray.toList_eq, h]
theorem qEd (k : OpK) : ∀ x, x ∈ k.toks -> qAV x = false := by
 intro x hx
 cases k with
 | reg t => simp only [OpK.toks, List.mem_singleton] at hx; subst hx; rfl
 | num n =>
   simp only [OpK.toks, List.mem_cons, List.not_mem_nil, or_false] at hx
   rcases hx with rfl | rfl
   ·exact qCX 35 (by decide)
   ·rfl
 | neg n =>
   simp only [OpK.toks, List.mem_cons, List.not_mem_nil, or_false] at hx
   rcases hx with rfl | rfl | rfl
   ·exact qCX 35 (by decide)
   ·exact qCX 45 (by decide)
   ·rfl
 | ind t =>
   simp only [OpK.toks, List.mem_cons, List.not_mem_nil, or_false] at hx
   rcases hx with rfl | rfl
   ·exact qCX 64 (by decide)
   ·rfl
 | pool t =>
   simp only [OpK.toks, List.mem_cons, List.not_mem_nil, or_false] at hx
   rcases hx with rfl | rfl
   ·exact qCX 61 (by decide)
   ·rfl
 | name t => simp only [OpK.toks, List.mem_singleton] at hx; subst hx; rfl
theorem qEm : ∀ l : List OpK, l ≠ [] -> qAO [] (qBR l) = l.map OpK.toks
 | [], h => absurd rfl h
 | [a], _ => by
   have := qDs a.toks [] [] (qEd a)
   rw [List.append_nil] at this
   rw [qBR, this]
   simp [qAO]
 | a :: b :: r, _ => by
   rw [qBR, qDs _ _ _ (qEd a), qAO, if_pos qKN, qEm (b :: r) (by simp), List.nil_append]
   rfl
theorem qK5 (k : OpK) : k.toks ≠ [] := by cases k <;> simp [OpK.toks]
theorem qHe (k : OpK) : k.toks.length <= 3 := by cases k <;> simp [OpK.toks]
theorem join_ne (a : OpK) (r : List OpK) : qBR (a :: r) ≠ [] := by
 cases r with
 | nil => exact qK5 a
 | cons b r => simp [qBR]
theorem qGm (l : List OpK) : qAu (qBR l) = l.map OpK.toks := by
 cases l with
 | nil => simp [qAu, qBR]
 | cons a r => rw [qAu, if_neg (join_ne a r), qEm _ (by simp)]
theorem qIL : ∀ l : List OpK, (qBR l).length <= 4 * l.length
 | [] => by simp [qBR]
 | [a] => by have := qHe a; simp [qBR]; omega
 | a :: b :: r => by
   have := qIL (b :: r)
   have := qHe a
   simp only [qBR, List.length_append, List.length_cons] at *
   omega
structure Ins where
 name : List UInt8
 ops : List OpK
 op : Int
def Ins.toks (i : Ins) : List Tk := wd i.name :: qBR i.ops
def Ins.fill (i : Ins) := (i.ops.map OpK.opd).foldl qx ⟨i.op, 0, 0, 0⟩
structure Ins.Ok (i : Ins) : Prop where
 name : i.name ∉ dirs
 ops : ∀ k, k ∈ i.ops -> k.ok
 n : i.ops.length <= 100
 pool : qAq (i.ops.map OpK.opd) ≠ [61, 114]
 found : qB7 ⟨i.name.toArray⟩ ⟨(qAq (i.ops.map OpK.opd)).toArray⟩ 12 0 = i.op
 op : i.op ≠ 0
 right : Isa.qV i.fill.op i.fill.n i.fill.m i.fill.imm = 0
 lab : labelled i.toks = false
def Ins.it (i : Ins) (ln : Int) : It := match i.ops with
 | .name nm :: _ => leadI ln i.fill.op i.fill.n i.fill.m i.fill.imm (.val nm 0)
 | _ => qAf ln i.fill.op i.fill.n i.fill.m i.fill.imm
theorem kd_one (k : OpK) : k.opd.kd.data.toList.length = 1 := by cases k <;> rfl
theorem kd_nm (k : OpK) : k.opd.kd.toList = kdN -> k.opd.nm = ⟨#[]⟩ := by
 cases k <;> simp [OpK.opd, ByteArray.toList_eq, kdN]
section
variable (w : World) (gu mb gp mi : Nat) (ln : Int) (labs : List (List UInt8 × Nat)) (its : List It)
end
end Go.Proofs.YtgjmbjahgcndnaaGreatDoor
namespace Go.Proofs.YtgjmbjahgcndnaaGreatDoor
open Go.RowKit
def OkL (l : List UInt8) (ts : List Sc.Tok) : Prop := Sc.qAM l = 0 /\ Sc.qj l = ts /\ ts ≠ [] /\ (∀ c, c ∈ l -> c ≠ 10) /\ l.length <= 80
def qA5 : Nat -> List (List Sc.Tok) -> List Sc.Ln
 | _, [] => []
 | k, t :: r => ⟨k, t⟩ :: qA5 (k + 1) r
theorem qFB : ∀ (l : List (List UInt8 × List Sc.Tok)) (k : Nat), (∀ a, a ∈ l -> OkL a.1 a.2) -> Sc.qAZ k (l.map (·.1) ++ [[]]) = .ok (qA5 k (l.map (·.2)))
 | [], k, _ => rfl
 | a :: r, k, h => by
   have ih := qFB r (k + 1) fun b hb => h b (by simp [hb])
   obtain ⟨e1, e2, e3, _⟩ := h a (by simp)
   rw [List.map_cons, List.cons_append, Sc.qAZ, if_pos e1, ih, e2]
   simp [qA5, e3]
theorem qFI : ∀ l : List (List UInt8 × List Sc.Tok), (∀ a, a ∈ l -> OkL a.1 a.2) -> Sc.qs (l.flatMap fun a => a.1 ++ [10]) = l.map (·.1) ++ [[]]
 | [], _ => rfl
 | a :: r, h => by
   have ih := qFI r fun b hb => h b (by simp [hb])
   have e : (a :: r).flatMap (fun a => a.1 ++ [10]) = a.1 ++ 10 :: r.flatMap (fun a => a.1 ++ [10]) := by simp
   rw [e, Sc.qF8 _ _ (h a (by simp)).2.2.2.1, ih]
   rfl
theorem len_of : ∀ l : List (List UInt8 × List Sc.Tok), (∀ a, a ∈ l -> OkL a.1 a.2) -> (l.flatMap fun a => a.1 ++ [10]).length <= 81 * l.length
 | [], _ => by simp
 | a :: r, h => by
   have ih := len_of r fun b hb => h b (by simp [hb])
   have := (h a (by simp)).2.2.2.2
   rw [List.flatMap_cons, List.length_append, List.length_append, List.length_cons]
   simp only [List.length_cons, List.length_nil]
   omega
theorem src_of (l : List (List UInt8 × List Sc.Tok)) (h : ∀ a, a ∈ l -> OkL a.1 a.2) (hl : l.length <= 14) : Sc.qAJ (l.flatMap fun a => a.1 ++ [10]) = .ok (qA5 1 (l.map (·.2))) := by
 unfold Sc.qAJ
 rw [if_neg (by have := len_of l h; omega), qFI l h]
 exact qFB l 1 h
def nopL : List UInt8 := [110, 111, 112]
def nopT : List Sc.Tok := [⟨1, 0, [110, 111, 112]⟩]
theorem ok_nop : OkL nopL nopT := ⟨by kernel_rfl, by kernel_rfl, by simp [nopT], by decide, by decide⟩
end Go.Proofs.YtgjmbjahgcndnaaGreatDoor
