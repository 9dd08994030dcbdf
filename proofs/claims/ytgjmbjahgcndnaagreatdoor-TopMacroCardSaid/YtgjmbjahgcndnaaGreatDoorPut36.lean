import Derived.Test.YtgjmbjahgcndnaaGreatDoorPut35
set_option maxHeartbeats 4000000
namespace Go.Proofs.YtgjmbjahgcndnaaGreatDoor
open Go.RowKit Go.Maps Go.MapKept
theorem lawS : Keyed Tryz.prog 9 := string_keyed Tryz.underlying9
theorem qE9 (w : World) : (zeroValue 3).run Tryz.prog w = .ok (.int .i64 0) w := by kernel_rfl
structure LM (D : DataW Unit) (l : List (List UInt8 × Nat)) : Prop where
 im : IsMap D
 has : ∀ n, Maps.has D (.string n) = (qAX n l).isSome
 at' : ∀ n z k, qAX n l = some k -> D.atKey (.string n) z = .lit (.int .i64 (k : Int))
 no : ∀ n z, qAX n l = none -> D.atKey (.string n) z = z
theorem LM.nil : LM (.map []) [] := ⟨isMap_empty, fun _ => rfl, fun _ _ _ h => by simp [qAX] at h, fun _ _ _ => rfl⟩
def LbR (W : World) (mb : Nat) (l : List (List UInt8 × Nat)) : Prop := ∃ D, W.ownsMap Tryz.prog 9 (plainElem Tryz.prog 3) mb l.length D /\ LM D l
theorem strKey {nm : List UInt8} (hl : nm.length <= maxLen) : keyOf Tryz.prog 9 (.string ⟨nm.toArray⟩) = some (.string nm) := Go.WideMaps.keyOf_string_mk Tryz.underlying9 (s := ⟨nm.toArray⟩) (by simpa [ByteArray.size] using hl)
theorem lit_int {a b : Int} (h : (DataW.lit (.int .i64 a) : DataW Unit) = .lit (.int .i64 b)) : a = b := by
 injection h with h
 injection h with _ h
theorem LbR.at1 {W : World} {mb k : Nat} {l : List (List UInt8 × Nat)} {nm : List UInt8} (h : LbR W mb l) (hl : nm.length <= maxLen) (hk : qAX nm l = some k) : (Instr.lookup 89 (.map (some mb)) (.string ⟨nm.toArray⟩) false).run Tryz.prog W = .ok (.int .i64 (k : Int)) W := by
 obtain ⟨D, hm, hd⟩ := h
 obtain ⟨c, hrun, hat, _⟩ := hm.lookup_int lawS Tryz.underlying89 Tryz.underlying3 (qE9 W) (strKey hl)
 have hc2 : (k : Int) = c := lit_int ((hd.at' nm _ k hk).symm.trans hat)
 subst hc2
 exact hrun
end Go.Proofs.YtgjmbjahgcndnaaGreatDoor
namespace Go.Proofs.YtgjmbjahgcndnaaGreatDoor
open Go.RowKit
theorem putB {W : World} {g size : Nat} {n : Int} (hs : size = 1 \/ size = 2 \/ size = 4) (hg : g < W.heap.size) (h : ∀ i, i < size -> W.cell? ⟨g, i, none⟩ = some (.int .u8 (Isa.qAe (fun _ => 0) 0 size n i))) : qg W (.slice (some ⟨g, 0, none⟩) size size) (putU size n) := by
 have key : (putU size n).length = size /\ ∀ i (hi : i < (putU size n).length), (((putU size n)[i]).toNat : Int) = Isa.qAe (fun _ => 0) 0 size n i := by
  rcases hs with rfl | rfl | rfl
  ·refine ⟨rfl, fun i hi => ?_⟩
   obtain rfl : i = 0 := by simpa [putU] using hi
   show ((lowB n).toNat : Int) = _
   rw [qBO]
   simp [Isa.qAe]
  ·refine ⟨rfl, fun i hi => ?_⟩
   have hi' : i < 2 := by simpa [putU, half] using hi
   rcases i with _ | _ | i
   ·show ((lowB (n / 256)).toNat : Int) = _
    rw [qBO]
    simp [Isa.qAe]
   ·show ((lowB n).toNat : Int) = _
    rw [qBO]
    simp [Isa.qAe]
   ·omega
  ·refine ⟨rfl, fun i hi => ?_⟩
   have hi' : i < 4 := by simpa [putU, be4] using hi
   rcases i with _ | _ | _ | _ | i
   ·show ((lowB (n / 16777216)).toNat : Int) = _
    rw [qBO]
    simp [Isa.qAe]
   ·show ((lowB (n / 65536)).toNat : Int) = _
    rw [qBO]
    simp [Isa.qAe]
   ·show ((lowB (n / 256)).toNat : Int) = _
    rw [qBO]
    simp [Isa.qAe]
   ·show ((lowB n).toNat : Int) = _
    rw [qBO]
    simp [Isa.qAe]
   ·omega
 obtain ⟨hl, hb⟩ := key
 refine ⟨some ⟨g, 0, none⟩, size, by rw [hl], by rw [hl]; rcases hs with rfl | rfl | rfl <;> decide, fun _ => ⟨g, 0, rfl, hg, fun i hi => ?_⟩⟩
 rw [hb i hi, Nat.zero_add]
 exact h i (by omega)
structure In where
 op : Int
 n : Int
 m : Int
 imm : Int
def In.C (k : In) : Array Value := #[.int .i64 k.op, .int .i64 k.n, .int .i64 k.m, .int .i64 k.imm]
def In.enc (k : In) : Int := Isa.encI k.op k.n k.m k.imm
def In.ok (k : In) : Prop := Isa.qV k.op k.n k.m k.imm = 0
def qAo (ks : List In) : List UInt8 := ks.flatMap fun k => half k.enc
def InsR (w : World) (ad : Option Addr) (ks : List In) : Prop := 0 < ks.length -> ∃ b o, ad = some ⟨b, o, none⟩ /\ b < w.heap.size /\ ∀ i (h : i < ks.length), w.cell? ⟨b, o + i * 4, none⟩ = some (.int .i64 ks[i].op) /\ w.cell? ⟨b, o + i * 4 + 1, none⟩ = some (.int .i64 ks[i].n) /\ w.cell? ⟨b, o + i * 4 + 2, none⟩ = some (.int .i64 ks[i].m) /\ w.cell? ⟨b, o + i * 4 + 3, none⟩ = some (.int .i64 ks[i].imm)
theorem qGw (ks : List In) (ad : Option Addr) (cap : Nat) (w : World) (hL : Isa.Laid w) (hr : InsR w ad ks) (hok : ∀ k, k ∈ ks -> k.ok) (hn : ks.length <= 1000) :
  Calls Tryz.prog 199 #[.slice ad ks.length cap] w fun r w' => (∃ cv, r = .returned (.tuple #[cv, .int .i64 0]) /\ Out w' w.heap.size cv (qAo ks)) /\ Below w.heap.size w w' := by
 have HL := Lib.hid hL
 have HR := Lib.hid hr
 have HOK := Lib.hid hok
 have hm2 : ∀ W, (Instr.makeSlice 31 (.int .i64 2) (.int .i64 2)).run Tryz.prog W = .ok (.slice (some ⟨W.heap.size, 0, none⟩) 2 2) (W.alloc (.cells (madeCells #[.int .u8 0] 2) 5)) := fun W => makeB 2 (by omega) W
 clear hL hr hok
 have HEN := Lib.hid fun (k : In) W (hb : Below w.heap.size w W) => Isa.qIx k.op k.n k.m k.imm W (HL.out.below hb HL.out.sz)
 have HPU : Hid (∀ n W g, g < W.heap.size -> (∀ i, i < 2 -> W.cell? ⟨g, i, none⟩ = some (.int .u8 0)) -> Calls Tryz.prog 64 #[.slice (some ⟨g, 0, none⟩) 2 2, .int .i64 0, .int .i64 2, .int .i64 n] W fun e w' => ∃ q, e = .returned (.slice (some ⟨q, 0, none⟩) 2 2) /\ qg w' (.slice (some ⟨q, 0, none⟩) 2 2) (half n) /\ Below W.heap.size W w') := fun n W g hg hc => by
  refine (Isa.qGe (some ⟨g, 0, none⟩) 2 2 (fun _ => 0) 0 2 n W (by omega) (fun _ => ⟨g, 0, rfl, fun i hi => by rw [Nat.zero_add]; exact hc i hi⟩) (by omega) (by omega) (by omega) (by omega)).mono ?_
  rintro e w' ⟨rfl, hb, hlt, hcell⟩
  exact ⟨_, rfl, putB (n := n) (.inr (.inl rfl)) hlt hcell, hb⟩
 go_enter Tryz.func199, Tryz.ntmps199
 go_wp2_with fail
 go_loopw [4, 11] (fun ov iv wr => ∃ k : Nat, k <= ks.length /\ iv = .int .i64 k /\ Hid (Out wr w.heap.size ov (qAo (ks.take k))) /\ Hid (Below w.heap.size w wr)) (fun _ iv _ => ks.length - (intOf iv).toNat)
 case atStart => exact ⟨0, Nat.zero_le _, rfl, ⟨World.ownsRow_nil _ _ _ _, Nat.le_refl _⟩, Below.refl _ _⟩
 case round =>
  obtain ⟨k, hk, rfl, HO, HB⟩ := hrel
  by_cases hlt : k < ks.length
  ·have hk' : (k : Int) < ks.length := by omega
   obtain ⟨b, o, rfl, hbl, hcell⟩ := HR.out (by omega)
   obtain ⟨r0, r1, r2, r3⟩ := hcell k hlt
   rw [<- HB.out.cell (by exact hbl)] at r0 r1 r2 r3
   have hbr : b < wr.heap.size := Nat.lt_of_lt_of_le hbl HB.out.size
   obtain ⟨x, hx⟩ : ∃ x, ks[k]'hlt = x := ⟨_, rfl⟩
   have hxo : x.ok := HOK.out x (by rw [<- hx]; exact List.getElem_mem _)
   have HT : Hid (qAo (ks.take (k + 1)) = qAo (ks.take k) ++ half x.enc) := by
    unfold Hid
    rw [List.take_succ_eq_append_getElem hlt, hx]
    simp [qAo]
   rw [hx] at r0 r1 r2 r3
   have HEX := Lib.hid fun W hb => HEN.out x W hb
   obtain ⟨op, n, m, imm⟩ := x
   simp only [In.enc] at HT
   simp only at r0 r1 r2 r3 HEX
   have hw0 : Isa.qV op n m imm = 0 := hxo
   have hew : Isa.encW op n m imm = Isa.encI op n m imm := by unfold Isa.encW; rw [if_pos hw0]
   generalize Isa.encI op n m imm = E at *
   clear hx hcell hxo
   go_wp2_with fail
   refine (HEX.out _ (HB.out.alloc HB.out.size _)).mono ?_
   rintro e w1 ⟨rfl, hb1⟩
   rw [hw0, hew]
   have hB1 : Below wr.heap.size wr w1 := (qE _ _).trans (hb1.mono (by simp))
   have HB1 := Lib.hid (HB.out.trans (hB1.mono HB.out.size))
   have HO1 := Lib.hid (HO.out.below hB1 (Nat.le_refl _))
   have HP1 := Lib.hid fun W hg hc => HPU.out E W w1.heap.size hg hc
   obtain ⟨oa, oc, hov⟩ := qG HO.out.1
   subst hov
   have HZ : Hid (∀ i, i < 2 -> (w1.alloc (.cells (madeCells #[.int .u8 0] 2) 5)).cell? ⟨w1.heap.size, i, none⟩ = some (.int .u8 0)) := fun i hi => (World.rowIs_made w1 (.int .u8 0) 2 5).cell hi
   clear hb1 hB1 HEX HPU HEN hew hw0
   go_wp2_with fail
   refine (HP1.out _ (by simp) HZ.out).mono ?_
   rintro e w2 ⟨q, rfl, hob, hb2⟩
   have hB2 : Below w1.heap.size w1 w2 := (qE _ _).trans (hb2.mono (by simp))
   have HB2 := Lib.hid (HB1.out.trans (hB2.mono HB1.out.size))
   have hO2 := HO1.out.below hB2 (Nat.le_refl _)
   have hlen : (qAo (ks.take k)).length <= 2 * k := by
    have e1 : ∀ l : List In, (qAo l).length = 2 * l.length := fun l => by
     induction l with
     | nil => rfl
     | cons a r ih => simp only [qAo, List.flatMap_cons, List.length_append, List.length_cons] at ih ⊢; rw [ih]; simp [half]; omega
    rw [e1]; simp; omega
   obtain ⟨v', w3, happ, hO3, hg3⟩ := qBP hO2 hob (by simp [half]; omega)
   have HO3 := Lib.hid hO3
   have HB3 : Hid (Below w.heap.size w w3) := hO2.grown HB2.out hg3 (Nat.le_refl _)
   have HA := Lib.hid happ
   clear hob hb2 hB2 hO2 hO3 hg3 HZ HP1 happ
   go_wp2_with (first | (at_builtin; refine qQ rfl _ _ _ _ rfl _ _ rfl rfl HA.out ?_) | fail)
   exact ⟨⟨k + 1, by omega, by go_num, Lib.hid (by rw [HT.out]; exact HO3.out), HB3⟩, by simp [intOf]; omega⟩
  ·obtain rfl : k = ks.length := by omega
   have hk' : ¬ ((ks.length : Nat) : Int) < ks.length := by omega
   go_wp2
   go_ret2
   have := HO.out
   rw [List.take_length] at this
   exact ⟨⟨_, rfl, this⟩, HB.out⟩
theorem In.okB {k : In} {b : List UInt8} (h : encU k.op k.n k.m k.imm = .ok b) : k.ok /\ b = half k.enc := by
 unfold encU at h
 split at h
 ·next h0 => injection h with h; exact ⟨h0, h.symm⟩
 ·exact absurd h (by simp)
theorem qHI (k : In) (g : Nat) (b : List UInt8) (w : World) (hL : Isa.Laid w) (hg : w.heap[g]? = some (.cells k.C 71 (0, 0))) (hok : encU k.op k.n k.m k.imm = .ok b) :
  Calls Tryz.prog 199 #[.slice (some ⟨g, 0, none⟩) 1 1] w fun r w' => (∃ ca cl cc, r = .returned (.tuple #[.slice ca cl cc, .int .i64 0]) /\ qg w' (.slice ca cl cc) b) /\ Below w.heap.size w w' := by
 obtain ⟨h1, rfl⟩ := In.okB hok
 refine (qGw [k] (some ⟨g, 0, none⟩) 1 w hL (fun _ => ⟨g, 0, rfl, qC hg, fun i hi => ?_⟩) (by simpa using h1) (by simp)).mono ?_
 ·obtain rfl : i = 0 := by simpa using hi
  exact ⟨qB hg rfl, qB hg rfl, qB hg rfl, qB hg rfl⟩
 ·rintro r w' ⟨⟨cv, rfl, ho⟩, hb⟩
  obtain ⟨ca, cc, rfl⟩ := qG ho.1
  exact ⟨⟨_, _, _, rfl, by simpa [qAo] using ho.bytes (by simp [qAo, half]; decide)⟩, hb⟩
theorem qJF (k : In) (gi : Nat) (p s : Int) (b : List UInt8) (w : World) (hL : Isa.Laid w) (hg : w.heap[gi]? = some (.cells k.C 71 (0, 0))) (hok : encU k.op k.n k.m k.imm = .ok b) :
  Calls Tryz.prog 205 #[.int .i64 p, .int .i64 s, .pointer (some ⟨gi, 0, none⟩)] w fun r w' => (∃ ca cl cc, r = .returned (.tuple #[.slice ca cl cc, .int .i64 0]) /\ qg w' (.slice ca cl cc) b) /\ Below w.heap.size w w' := by
 have HE := Lib.hid fun W (hb : Below w.heap.size w W) g (hq : W.heap[g]? = some (.cells k.C 71 (0, 0))) => qHI k g b W (hL.below hb hL.sz) hq hok
 obtain ⟨op, n, m, imm⟩ := k
 have c0 : w.cell? ⟨gi, 0, none⟩ = some (.int .i64 op) := qB hg rfl
 have c1 : w.cell? ⟨gi, 1, none⟩ = some (.int .i64 n) := qB hg rfl
 have c2 : w.cell? ⟨gi, 2, none⟩ = some (.int .i64 m) := qB hg rfl
 have c3 : w.cell? ⟨gi, 3, none⟩ = some (.int .i64 imm) := qB hg rfl
 have hgi := qC hg
 clear hL hg hok
 go_enter Tryz.func205, Tryz.ntmps205
 go_wp2_with fail
 refine (HE.out _ (qE _ _) _ (qH _ _ rfl)).mono ?_
 rintro e w1 ⟨⟨ca, cl, cc, rfl, hob⟩, hb1⟩
 have HOB := Lib.hid hob
 have HB1 : Hid (Below w.heap.size w w1) := (qE _ _).trans (hb1.mono (by simp))
 clear hob hb1 HE
 go_wp2
 go_ret2
 exact ⟨⟨ca, cl, cc, rfl, HOB.out⟩, HB1.out⟩
structure SU where
 gu : Nat
 gp : Nat
 mb : Nat
 n : Nat
 e : Value
 nv : Value
 iv : Value
 pp : Value
 ln : Int
 labs : List (List UInt8 × Nat)
 ps : List Int
 firsts : Nat -> Nat
structure S0 (x : SU) (w : World) : Prop where
 pl : PlR w x.gp x.n (x.n + 1) x.ps
 lb : LbR w x.mb x.labs
 laid : Isa.Laid w
 hi : max 1 4 < x.gu
 nn : x.n <= 100000
 bd : ∀ k, 0 <= x.ps.getD k 0 /\ x.ps.getD k 0 <= 1000000
 lab : ∀ nm k, qAX nm x.labs = some k -> k <= x.n
def Re.cells (r : Re) : List Value := [.int .i64 r.pos, .int .i64 r.size, .string ⟨r.name.toArray⟩, .int .i64 r.add]
def rcells (l : List Re) : List Value := l.flatMap Re.cells
def SU.C (x : SU) (rv : Value) : Array Value := uC x.e x.ln x.nv (.map (some x.mb)) x.iv x.pp (.slice (some ⟨x.gp, 0, none⟩) (x.n + 1) (x.n + 1)) rv
structure WS (x : SU) (w W : World) (rv : Value) (rs : List Re) : Prop where
 st : S0 x w
 fr : Fr x.gu w.heap.size w W
 ub : ∃ c, w.heap[x.gu]? = some (.cells c 141 (0, 0))
 box : W.heap[x.gu]? = some (.cells (x.C rv) 141 (0, 0))
 rel : W.ownsRow w.heap.size 120 4 rv rs.length (rcells rs)
structure Ch (g : Nat) (o : Option Nat) (W W' : World) : Prop where
 os : W'.os = W.os
 tape : W'.tape = W.tape
 output : W'.output = W.output
 size : W.heap.size <= W'.heap.size
 block : ∀ i, i < W.heap.size -> i ≠ g -> some i ≠ o -> W'.heap[i]? = W.heap[i]?
theorem Ch.of {g : Nat} {o : Option Nat} {W W' : World} (h : Below W.heap.size W W') : Ch g o W W' := ⟨h.os, h.tape, h.output, h.size, fun i hi _ _ => h.block i hi⟩
theorem Fr.lowd {g B : Nat} {w w' : World} (h : Fr g B w w') (hg : g <= B) : Below g w w' := ⟨h.os, h.tape, h.output, h.size, fun i hi => h.block i (by omega) (by omega)⟩
section
variable {x : SU} {w W W' : World} {rv : Value} {rs : List Re}
theorem WS.go (h : WS x w W rv rs) (hb : Below W.heap.size W W') : WS x w W' rv rs :=
 ⟨h.st, h.fr.trans (Fr.below (hb.mono h.fr.size)), h.ub, by rw [hb.block _ (qC h.box)]; exact h.box, Sc.qd h.rel hb (Nat.le_refl _)⟩
theorem WS.keep (h : WS x w W rv rs) {q : Nat} {o : Obj} (hq : w.heap[q]? = some o) (hne : q ≠ x.gu) : W.heap[q]? = some o := by rw [h.fr.block q (qC hq) hne]; exact hq
theorem S0.go (h : S0 x w) (hf : Fr x.gu w.heap.size w W) (hu : ∃ c, w.heap[x.gu]? = some (.cells c 141 (0, 0))) : S0 x W := by
 obtain ⟨c, hu⟩ := hu
 have hne : ∀ {q : Nat} {o : Obj}, w.heap[q]? = some o -> (∀ c', o ≠ .cells c' 141 (0, 0)) -> W.heap[q]? = some o := by
  intro q o hq ho
  rw [hf.block q (qC hq) (by rintro rfl; rw [hu] at hq; injection hq with hq; exact ho _ hq.symm)]
  exact hq
 refine ⟨?_, ?_, h.laid.below (hf.lowd (Nat.le_of_lt (qC hu))) h.hi, h.hi, h.nn, h.bd, h.lab⟩
 ·obtain ⟨cs, k1, k2⟩ := h.pl
  exact ⟨cs, hne k1 (by intro c' e; injection e with _ e2; exact absurd e2 (by decide)), k2⟩
 ·obtain ⟨D, ⟨es, clock, hb, F⟩, hd⟩ := h.lb
  exact ⟨D, ⟨es, clock, hne hb (by intro c' e; cases e), F⟩, hd⟩
theorem WS.s0 (h : WS x w W rv rs) : S0 x W := h.st.go h.fr h.ub
theorem WS.lt (h : WS x w W rv rs) : x.gu < w.heap.size := by obtain ⟨c, hc⟩ := h.ub; exact qC hc
end
end Go.Proofs.YtgjmbjahgcndnaaGreatDoor
namespace Go.Proofs.YtgjmbjahgcndnaaGreatDoor
open Go.RowKit Go.Maps Go.MapKept
def qLr (l : List (List UInt8 × Nat)) : List Value := l.map fun a => .string ⟨a.1.toArray⟩
end Go.Proofs.YtgjmbjahgcndnaaGreatDoor
