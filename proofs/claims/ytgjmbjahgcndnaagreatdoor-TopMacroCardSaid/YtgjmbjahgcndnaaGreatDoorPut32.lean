import Derived.Test.YtgjmbjahgcndnaaGreatDoorPut31
import Derived.Test.YtgjmbjahgcndnaaGreatDoorPut30
set_option maxHeartbeats 4000000
set_option maxRecDepth 100000
namespace Go.Proofs.YtgjmbjahgcndnaaGreatDoor
open Go.RowKit
def qIN (k n : Int) (t : ByteArray) (nm : ByteArray) (v : Int) : Prop := (k = 2 /\ nm = ⟨#[]⟩ /\ v = wrap32 n) \/ (k = 1 /\ nm = t /\ v = 0 /\ Xp.qL t.data.toList = true)
theorem qMB (g q : Nat) (u : Bool) (k n : Int) (t nm : ByteArray) (v : Int) (hk : qIN k n t nm v) (w : World) (hL : Xp.qAT w) (h : PR w g q ⟨#[]⟩ false (.slice none 0 0) u 0 false ⟨#[]⟩ 0) :
  Calls Tryz.prog 241 #[.pointer (some ⟨g, 0, none⟩), tokV k n t] w fun r w' => r = .returned (.int .i64 0) /\ PR w' g q ⟨#[]⟩ true (.slice none 0 0) u 0 true nm v /\ F2 g q w w' := by
 rcases hk with ⟨rfl, rfl, rfl⟩ | ⟨rfl, rfl, rfl, hn⟩
 ·exact qE0 g q u n t w hL h
 ·exact qKp g q u n _ hn w hL h
theorem qHS (g q : Nat) (u : Bool) (k n : Int) (t nm : ByteArray) (v : Int) (hk : qIN k n t nm v) (w : World) (hL : Xp.qAT w) (h : PR w g q ⟨#[]⟩ false (.slice none 0 0) u 0 false ⟨#[]⟩ 0) :
  Calls Tryz.prog 220 #[.pointer (some ⟨g, 0, none⟩), tokV k n t] w fun r w' => r = .returned (.tuple #[]) /\ PR w' g q ⟨#[]⟩ true (.slice none 0 0) u 0 true nm v /\ F2 g q w w' := by
 have c1 : w.cell? ⟨g, 1, none⟩ = some (.bool false) := qB h.pt rfl
 have c6 : w.cell? ⟨g, 6, none⟩ = some (.int .i64 0) := qB h.pt rfl
 have hg := qC h.pt
 have HN := Lib.hid fun W (hb : Below w.heap.size w W) => qMB g q u k n t nm v hk W (KL.below hL hb) (h.go hb)
 clear h hL hk
 unfold tokV at *
 go_enter Tryz.func220, Tryz.ntmps220
 go_wp2_with fail
 refine (HN.out _ (qE _ _)).mono ?_
 rintro e w1 ⟨rfl, hp1, hb1⟩
 have d6 : w1.cell? ⟨g, 6, none⟩ = some (.int .i64 0) := qB hp1.pt rfl
 have f6 : w1.frozen? ⟨g, 6, none⟩ = false := qD hp1.pt
 have hg1 := qC hp1.pt
 have HP1 := Lib.hid hp1
 have HB1 := Lib.hid hb1
 clear hp1 hb1
 go_wp2
 refine bodyPost_end (v := .tuple #[]) (by simp [results, Tryz.results220, go_sem]) rfl ⟨rfl, ?_, ?_⟩
 ·exact HP1.out.go (qX HP1.out.pt rfl)
 ·exact ((F2.below (qE _ _)).trans HB1.out).trans (F2.below (qX HP1.out.pt rfl))
theorem qCe (gr go' b o len cap : Nat) (gp : Nat) (w : World) (c0 : w.cell? ⟨gr, go', none⟩ = some (.slice (some ⟨b, o, none⟩) (len + 1) cap)) (c1 : w.cell? ⟨gr, go' + 1, none⟩ = some (.pointer (some ⟨gp, 0, none⟩))) (c6 : w.cell? ⟨gp, 6, none⟩ = some (.int .i64 0)) :
  Calls Tryz.prog 219 #[.pointer (some ⟨gr, go', none⟩)] w fun r w' => r = .returned (.bool false) /\ w = w' := by
 have h1 : ((len : Int) + 1 == 0) = false := by simp; omega
 go_enter Tryz.func219, Tryz.ntmps219
 go_wp2_with (go_at_call 225; refine (qE4 gp 0 _ c6).mono ?_; rintro e w' ⟨rfl, rfl⟩)
 go_ret
 exact ⟨rfl, rfl⟩
theorem qC6 (gr go' cap : Nat) (ad : Option Addr) (w : World) (c0 : w.cell? ⟨gr, go', none⟩ = some (.slice ad 0 cap)) :
  Calls Tryz.prog 219 #[.pointer (some ⟨gr, go', none⟩)] w fun r w' => r = .returned (.bool true) /\ w = w' := by
 go_enter Tryz.func219, Tryz.ntmps219
 go_wp2_with fail
 go_ret
 exact ⟨rfl, rfl⟩
theorem qEH (b o cap : Nat) (k n : Int) (t nm : ByteArray) (v : Int) (hk : qIN k n t nm v) (w : World) (hL : Xp.qAT w) (hb : b < w.heap.size) (_ : cap + 1 <= maxLen)
  (c0 : w.cell? ⟨b, o, none⟩ = some (.int .i64 k)) (c1 : w.cell? ⟨b, o + 1, none⟩ = some (.int .i64 n)) (c2 : w.cell? ⟨b, o + 2, none⟩ = some (.string t)) (c3 : w.cell? ⟨b, o + 3, none⟩ = some (.pointer none)) :
  Calls Tryz.prog 187 #[.slice (some ⟨b, o, none⟩) 1 (cap + 1), .slice none 0 0] w fun r w' => (∃ g q, r = .returned (.pointer (some ⟨g, 0, none⟩)) /\ PR w' g q ⟨#[]⟩ true (.slice none 0 0) false 0 true nm v) /\ Below w.heap.size w w' := by
 have hmm : ∀ w, (Instr.makeMap 318 none).run Tryz.prog w = .ok (.map (some w.heap.size)) (w.alloc (.map #[] 0)) := fun w => rfl
 have HL := Lib.hid hL
 clear hL
 go_enter Tryz.func187, Tryz.ntmps187
 go_wp2_with fail
 refine (qDk ⟨#[]⟩ false none 0 0 _).mono ?_
 rintro e w1 ⟨⟨g, q, rfl, hg, hq, hp1⟩, hb1⟩
 have hB1 : Below w.heap.size w w1 := Below.trans (by go_grown) (hb1.mono (by go_size))
 have d0 := (hB1.cell (by show b < w.heap.size; exact hb)).trans c0
 have d1 := (hB1.cell (by show b < w.heap.size; exact hb)).trans c1
 have d2 := (hB1.cell (by show b < w.heap.size; exact hb)).trans c2
 have d3 := (hB1.cell (by show b < w.heap.size; exact hb)).trans c3
 have hb' : b < w1.heap.size := Nat.lt_of_lt_of_le hb hB1.size
 have HP1 := Lib.hid hp1
 have HB1 := Lib.hid hB1
 have hg1 := qC hp1.pt
 have hq1 := qC hp1.ch
 simp only [World.size_alloc] at hg hq
 clear hb1 hB1 hp1
 go_wp2_with fail
 have hr2 : (w1.alloc (.cells #[.slice (some ⟨b, o, none⟩) 1 (cap + 1), .pointer (some ⟨g, 0, none⟩), .pointer none, .string ⟨#[]⟩, .bool false] 325)).heap[w1.heap.size]? = some (.cells #[.slice (some ⟨b, o, none⟩) 1 (cap + 1), .pointer (some ⟨g, 0, none⟩), .pointer none, .string ⟨#[]⟩, .bool false] 325 (0, 0)) := qH _ _ rfl
 have hb2 : Below w1.heap.size w1 (w1.alloc (.cells #[.slice (some ⟨b, o, none⟩) 1 (cap + 1), .pointer (some ⟨g, 0, none⟩), .pointer none, .string ⟨#[]⟩, .bool false] 325)) := qE _ _
 generalize w1.alloc (.cells #[.slice (some ⟨b, o, none⟩) 1 (cap + 1), .pointer (some ⟨g, 0, none⟩), .pointer none, .string ⟨#[]⟩, .bool false] 325) = W2 at *
 replace d0 := (hb2.cell (by show b < w1.heap.size; exact hb')).trans d0
 replace d1 := (hb2.cell (by show b < w1.heap.size; exact hb')).trans d1
 replace d2 := (hb2.cell (by show b < w1.heap.size; exact hb')).trans d2
 replace d3 := (hb2.cell (by show b < w1.heap.size; exact hb')).trans d3
 have hz2 := qC hr2
 have x0 : W2.cell? ⟨w1.heap.size, 0, none⟩ = some (.slice (some ⟨b, o, none⟩) 1 (cap + 1)) := qB hr2 rfl
 have x1 : W2.cell? ⟨w1.heap.size, 1, none⟩ = some (.pointer (some ⟨g, 0, none⟩)) := qB hr2 rfl
 have hpt := (HP1.out.go hb2).pt
 have x6 : W2.cell? ⟨g, 6, none⟩ = some (.int .i64 0) := qB hpt rfl
 have HR2 := Lib.hid hr2
 have HB2 : Hid (Below w.heap.size w W2) := HB1.out.trans (hb2.mono (by have := HB1.out.size; omega))
 have HRD := Lib.hid (qCe w1.heap.size 0 b o 0 (cap + 1) g W2 x0 x1 x6)
 have HAD := Lib.hid fun W (hb : Below W2.heap.size W2 W) => qHS g q false k n t nm v hk W (KL.below (KL.below HL.out HB2.out) hb) ((HP1.out.go hb2).go hb)
 have hsz := HB1.out.size
 clear hr2 hb2 hpt HB1 c0 c1 c2 c3 hk HL
 unfold tokV at HAD
 refine wp_loop_rounds 2 ?_
 rw [rounds_succ]
 obtain ⟨ad', HA'⟩ : ∃ ad' : Option Addr, Hid ((if cap = 0 then some (⟨b, o, none⟩ : Addr) else some ⟨b, o + 4, none⟩) = ad') := ⟨_, Lib.hid rfl⟩
 go_wp2_with (go_at_call 219; refine HRD.out.mono ?_; rintro e w' ⟨rfl, rfl⟩)
 go_region_with (go_at_call 220; refine (HAD.out _ (Below.refl _ _).drew).mono ?_; rintro e w3 ⟨rfl, hp3, hf3⟩; have hr3 := (hf3.block _ hz2 (by omega) (by omega)).trans HR2.out; have y0 : w3.cell? ⟨w1.heap.size, 0, none⟩ = some (.slice (some ⟨b, o, none⟩) 1 (cap + 1)) := qB hr3 rfl; have y1 : w3.frozen? ⟨w1.heap.size, 0, none⟩ = false := qD hr3; have y2 : w3.cell? ⟨w1.heap.size, 1, none⟩ = some (.pointer (some ⟨g, 0, none⟩)) := qB hr3 rfl; have hz3 := qC hr3; have HR3 := Lib.hid hr3; have HP3 := Lib.hid hp3; have HF3 := Lib.hid hf3; clear hr3 hp3 hf3)
 all_goals go_wp2_with fail
 all_goals
  rw [rounds_succ]
  go_wp2_with (go_at_call 219; refine (qC6 _ _ _ _ _ (qB (qJ HR3.out) rfl)).mono ?_; rintro e w' ⟨rfl, rfl⟩)
  go_returns
  refine ⟨⟨g, q, rfl, ?_⟩, ?_⟩
  ·exact ⟨by rw [Below.heap_setCell _ _ _ _ (by show g ≠ w1.heap.size; omega)]; exact HP3.out.pt, by rw [Below.heap_setCell _ _ _ _ (by show q ≠ w1.heap.size; omega)]; exact HP3.out.ch⟩
  ·exact (HB2.out.trans ((Below.refl _ _).drew.trans (HF3.out.to (by omega) (by omega) (by show w.heap.size <= W2.heap.size; omega)))).setCell (by omega) _
theorem qG9 (v : Value) (x : Tk) (nm : ByteArray) (n : Int) (hk : qIN x.k x.n x.t nm n) (w : World) (hL : Xp.qAT w) (h : qI w v [x]) :
  Calls Tryz.prog 193 #[v, .slice none 0 0] w fun r w' => r = .returned (.tuple #[.agg #[.string nm, .int .i64 n], .bool true, .int .i64 0]) /\ Below w.heap.size w w' := by
 obtain ⟨ad, cap, rfl, hc, hm, h⟩ := h
 obtain ⟨b, o, rfl, hb, hcell⟩ := h (by simp)
 have c := hcell 0 (by simp)
 simp only [Nat.zero_mul, Nat.add_zero, List.getElem_cons_zero] at c
 obtain ⟨c0, c1, c2, c3⟩ := c
 obtain ⟨cap, rfl⟩ : ∃ k, cap = k + 1 := ⟨cap - 1, by simp at hc; omega⟩
 have HE := Lib.hid fun W (hb' : Below w.heap.size w W) => qEH b o cap x.k x.n x.t nm n hk W (KL.below hL hb') (Nat.lt_of_lt_of_le hb hb'.size) hm (by rw [hb'.cell (by exact hb)]; exact c0) (by rw [hb'.cell (by exact hb)]; exact c1) (by rw [hb'.cell (by exact hb)]; exact c2) (by rw [hb'.cell (by exact hb)]; exact c3)
 clear hL hcell h hk c0 c1 c2 c3
 simp only [List.length_singleton]
 go_enter Tryz.func193, Tryz.ntmps193
 go_wp2_with fail
 refine (HE.out _ (qE _ _)).mono ?_
 rintro e w1 ⟨⟨g, q, rfl, hp1⟩, hb1⟩
 obtain ⟨hB1, hz1, xr⟩ := qS hb1
 have HB1 := Lib.hid hB1
 have XR := Lib.hid xr
 have HF := Lib.hid fun W (hb : Below w1.heap.size w1 W) => qDt g q _ nm n 0 W (hp1.go hb)
 have HP1 := Lib.hid hp1
 clear hb1 hB1 xr hp1 HE
 go_wp2_with (go_at_call 223; refine (HF.out _ (Below.refl _ _)).mono ?_; rintro e w2 ⟨rfl, hb2⟩; have HB2 := Lib.hid (HB1.out.trans (hb2.mono (by omega))); have HP2 := Lib.hid (HP1.out.go hb2); have xr2 := (hb2.block _ hz1).trans XR.out; obtain ⟨⟨u0, u1⟩, f0, f1⟩ := qo xr2; have hz2 := qC xr2; clear hb2 xr2)
 have HE6 : Hid (∀ W, Below w2.heap.size w2 W -> Calls Tryz.prog 225 #[.pointer (some ⟨g, 0, none⟩)] W fun r w' => r = .returned (.int .i64 0) /\ w' = W) := fun W hb => qE4 g 0 W (qB (HP2.out.go hb).pt rfl)
 clear HP1 HF XR
 go_region_with (go_at_call 225; refine (HE6.out _ (by go_grown)).mono ?_; rintro e w3 ⟨rfl, rfl⟩)
 all_goals
  go_wp2
  refine bodyPost_ret (v := .tuple #[.agg #[.string nm, .int .i64 n], .bool true, .int .i64 0]) (by simp [results, Tryz.results193, go_sem, World.cell?_alloc_lt, hz2, u0, u1]) rfl ⟨rfl, ?_⟩
  have hb := HB2.out
  go_grown
def opV (kd : ByteArray) (r : Int) (nm : ByteArray) (n : Int) : Value := .agg #[.string kd, .int .i64 r, .string nm, .int .i64 n]
theorem qAn {w : World} {R : Nat} {a b c d : Value} {t : TypeId} (h : w.heap[R]? = some (.cells #[a, b, c, d] t (0, 0))) : ((w.cell? ⟨R, 0, none⟩ = some a /\ w.cell? ⟨R, 1, none⟩ = some b) /\ (w.cell? ⟨R, 2, none⟩ = some c /\ w.cell? ⟨R, 3, none⟩ = some d)) /\ (w.frozen? ⟨R, 0, none⟩ = false /\ w.frozen? ⟨R, 1, none⟩ = false) /\ w.frozen? ⟨R, 2, none⟩ = false /\ w.frozen? ⟨R, 3, none⟩ = false := by
 refine ⟨⟨⟨?_, ?_⟩, ?_, ?_⟩, ⟨?_, ?_⟩, ?_, ?_⟩ <;> simp [World.cell?, World.frozen?, h]
theorem qIZ (gu : Nat) (kd : ByteArray) (v : Value) (x : Tk) (nm : ByteArray) (n : Int) (hk : qIN x.k x.n x.t nm n) (w : World) (hL : Xp.qAT w) (h : qI w v [x]) (c0 : w.cell? ⟨gu, 0, none⟩ = some (.slice none 0 0)) :
  Calls Tryz.prog 164 #[.pointer (some ⟨gu, 0, none⟩), .string kd, v] w fun r w' => r = .returned (.tuple #[opV kd 0 nm n, .int .i64 0]) /\ Below w.heap.size w w' := by
 have HM := Lib.hid fun W (hb : Below w.heap.size w W) => qG9 v x nm n hk W (KL.below hL hb) (h.below hb (Nat.le_refl _))
 have hg : gu < w.heap.size := World.block_lt_of_cell? w _ c0
 obtain ⟨ad, cap, rfl, _⟩ := h
 clear hL hk
 unfold opV
 go_enter Tryz.func164, Tryz.ntmps164
 go_wp2_with fail
 refine (HM.out _ (qE _ _)).mono ?_
 rintro e w1 ⟨rfl, hb1⟩
 obtain ⟨hB1, hz1, xr⟩ := qS hb1
 obtain ⟨⟨⟨u0, u1⟩, u2, u3⟩, ⟨f0, f1⟩, f2, f3⟩ := qAn xr
 have HB1 := Lib.hid hB1
 have XR := Lib.hid xr
 clear hb1 hB1 xr HM
 go_wp2_with fail
 exact bodyPost_ret (v := .tuple #[.agg #[.string kd, .int .i64 0, .string nm, .int .i64 n], .int .i64 0]) (by simp [results, Tryz.results164, go_sem, World.cell?_alloc_lt, hz1, u0, u1, u2, u3]) rfl ⟨rfl, ((((HB1.out.setCell (Nat.le_refl _) _).setCell (Nat.le_refl _) _).setCell (Nat.le_refl _) _).setCell (Nat.le_refl _) _).alloc (by simp; omega) _⟩
structure Opd where
 kd : ByteArray
 r : Int
 nm : ByteArray
 n : Int
def Opd.V (x : Opd) : Value := opV x.kd x.r x.nm x.n
def opC (l : List Opd) : List Value := l.flatMap fun x => [.string x.kd, .int .i64 x.r, .string x.nm, .int .i64 x.n]
theorem infoOp : (Tryz.prog.info? 235).map (fun i => (i.zero, i.size, i.bytes)) = some (some (.agg #[.string ⟨#[]⟩, .int .i64 0, .string ⟨#[]⟩, .int .i64 0]), 4, 48) := by kernel_rfl
theorem qLM (l : List Opd) (x : Opd) : opC (l ++ [x]) = opC l ++ [.string x.kd, .int .i64 x.r, .string x.nm, .int .i64 x.n] := by simp [opC]
theorem qDP : ∀ (ts cur : List Tk), (qAO cur ts).length <= ts.length + 1
 | [], cur => by simp [qAO]
 | x :: r, cur => by
   rw [qAO]
   split
   ·have := qDP r []; simp; omega
   ·have := qDP r (cur ++ [x]); simp; omega
theorem qIr (ts : List Tk) : (qAu ts).length <= ts.length + 1 := by
 unfold qAu
 split
 ·simp
 ·exact qDP ts []
theorem qGH {w : World} {base n : Nat} {e : TypeId} {oa : Option Addr} {oc : Nat} {xs : List Value} (h : w.ownsRow base e 1 (.slice oa n oc) n xs) {k : Nat} (hk : k < n) : ∃ g, oa = some ⟨g, 0, none⟩ /\ g < w.heap.size /\ w.cell? ⟨g, k, none⟩ = some (xs[k]'(by have := h.1; omega)) := by
 rcases id h.2 with ⟨hv, h0⟩ | ⟨g, cap, cur, hv, hg, hgg, _⟩
 ·omega
 ·injection hv with e1 _ _
  subst e1
  refine ⟨g, rfl, qC hgg, ?_⟩
  have := h.cells rfl k _ (List.getElem?_eq_getElem (by have := h.1; omega))
  have hadd : (⟨g, 0, none⟩ : Addr).add k = ⟨g, 0 + k, none⟩ := by unfold Addr.add; split <;> simp_all
  rw [hadd, Nat.zero_add] at this
  exact this
theorem qCD (gu : Nat) (v : Value) (ts : List Tk) (ops : List Opd) (w : World) (h : qI w v ts) (hn : ts.length <= 1000) (hl : ops.length = (qAu ts).length)
  (hop : ∀ i (h : i < ops.length) (u : Value) (W : World), Below w.heap.size w W -> qI W u ((qAu ts)[i]'(by omega)) -> Calls Tryz.prog 131 #[.pointer (some ⟨gu, 0, none⟩), u] W fun r w' => r = .returned (.tuple #[ops[i].V, .int .i64 0]) /\ Below W.heap.size W w') :
  Calls Tryz.prog 92 #[.pointer (some ⟨gu, 0, none⟩), v] w fun r w' => (∃ ov, r = .returned (.tuple #[ov, .int .i64 0]) /\ w'.ownsRow w.heap.size 235 4 ov ops.length (opC ops)) /\ Below w.heap.size w w' := by
 have HS := Lib.hid (qC9 v ts w h (by omega))
 have hol : ops.length <= 1001 := by have := qIr ts; omega
 have HOP := Lib.hid hop
 obtain ⟨ad, cap, rfl, _⟩ := h
 clear hop
 go_enter Tryz.func92, Tryz.ntmps92
 go_wp2_with fail
 refine HS.out.mono ?_
 rintro e w1 ⟨⟨ov, vs, rfl, hT⟩, hB1⟩
 obtain ⟨oa, oc, hov⟩ := qG hT.1
 subst hov
 have HT := Lib.hid hT
 have HB1 := Lib.hid hB1
 have hvl : vs.length = ops.length := by rw [hl]; exact hT.2.1
 clear hT hB1 HS
 go_wp2_with fail
 go_loopw [7, 16] (fun ov iv wr => ∃ k : Nat, k <= ops.length /\ iv = .int .i64 k /\ Hid (wr.ownsRow w1.heap.size 235 4 ov k (opC (ops.take k))) /\ Hid (Below w1.heap.size w1 wr)) (fun _ iv _ => ops.length - (intOf iv).toNat)
 case atStart => exact ⟨0, Nat.zero_le _, rfl, Lib.hid (by simpa [opC] using World.ownsRow_nil w1 _ _ _), Below.refl _ _⟩
 case round =>
  obtain ⟨k, hk, rfl, HR, HB⟩ := hrel
  by_cases hlt : k < ops.length
  ·have hk' : (k : Int) < vs.length := by omega
   obtain ⟨g, rfl, hgl, hgc⟩ := qGH HT.out.1 (k := k) (by omega)
   have hz := HB.out.size
   have hB : Below w.heap.size w wr := HB1.out.trans (HB.out.mono HB1.out.size)
   have hkv : k < vs.length := by omega
   have hpk : qI w (vs[k]'hkv) ((qAu ts)[k]'(by omega)) := HT.out.2.2 k hkv (by omega)
   obtain ⟨u, hu⟩ : ∃ u, vs[k]'hkv = u := ⟨_, rfl⟩
   rw [hu] at hgc hpk
   clear hu
   obtain ⟨ua, un, uc, rfl⟩ := hpk.shape
   have c0 : wr.cell? ⟨g, k, none⟩ = some (.slice ua un uc) := (HB.out.cell (by show g < w1.heap.size; exact hgl)).trans hgc
   have hg2 : g < wr.heap.size := by omega
   have HC := Lib.hid (HOP.out k hlt (.slice ua un uc) wr hB (hpk.below hB (Nat.le_refl _)))
   have HTK : Hid (opC (ops.take (k + 1)) = opC (ops.take k) ++ [.string ops[k].kd, .int .i64 ops[k].r, .string ops[k].nm, .int .i64 ops[k].n]) := by
    unfold Hid
    rw [List.take_succ_eq_append_getElem hlt, qLM]
   unfold Opd.V opV at HC
   obtain ⟨x, hx⟩ : ∃ x, ops[k]'hlt = x := ⟨_, rfl⟩
   rw [hx] at HC HTK
   clear hx hpk hB hgc
   obtain ⟨la, lc, hov⟩ := qG HR.out
   subst hov
   have HAP : Hid (∀ w2, Below wr.heap.size wr w2 -> ∃ la' lc' w3, (∀ ty, (Builtin.append_ #[191, 191] ty #[.slice la k lc, .slice (some ⟨w2.heap.size + 1, 0, none⟩) 1 1]).run Tryz.prog ((w2.alloc (.cells #[.string x.kd, .int .i64 x.r, .string x.nm, .int .i64 x.n] 235)).alloc (.cells #[.string x.kd, .int .i64 x.r, .string x.nm, .int .i64 x.n] 235)) = .ok (.slice la' (k + 1) lc') w3) /\
     w3.ownsRow w1.heap.size 235 4 (.slice la' (k + 1) lc') (k + 1) (opC (ops.take (k + 1))) /\ Below w1.heap.size w1 w3) := fun w2 hb => by
    have hz2 := hb.size
    have hrow := ((Sc.qd HR.out hb (Nat.le_refl _)).alloc (.cells #[.string x.kd, .int .i64 x.r, .string x.nm, .int .i64 x.n] 235)).alloc (.cells #[.string x.kd, .int .i64 x.r, .string x.nm, .int .i64 x.n] 235)
    obtain ⟨v', w3, happ, hr', hgr⟩ := app1 191 235 _ 4 48 Tryz.underlying191 infoOp rfl (by decide) (by decide) hrow (by go_size) [.string x.kd, .int .i64 x.r, .string x.nm, .int .i64 x.n] rfl (w2.heap.size + 1) (qH _ _ (by simp)) (by intro u hu; simp at hu; rcases hu with rfl | rfl | rfl | rfl <;> rfl) (by omega)
    obtain ⟨la', lc', rfl⟩ := qG hr'
    refine ⟨la', lc', w3, happ, by rw [HTK.out]; exact hr', ?_⟩
    have hb1 := HB.out.trans (hb.mono hz)
    exact ((hb1.alloc (by omega) _).alloc (by go_size) _).grown hgr (by go_size) (fun q hq => (hrow.lt q hq).1)
   go_wp2_with (first
    | (go_at_call 131; refine HC.out.mono ?_; rintro e w2 ⟨rfl, hb2⟩; obtain ⟨la', lc', w3, happ, hr3, hb3⟩ := HAP.out w2 hb2; have HA := Lib.hid happ; have HR3 := Lib.hid hr3; have HB3 := Lib.hid hb3; clear hb2 happ hr3 hb3)
    | (at_builtin; refine qQ rfl _ _ _ _ rfl _ _ rfl rfl HA.out ?_))
   exact ⟨⟨k + 1, by omega, by go_num, HR3, HB3⟩, by simp [intOf]; omega⟩
  ·obtain rfl : k = ops.length := by omega
   have hk' : ¬ ((ops.length : Nat) : Int) < vs.length := by omega
   obtain ⟨la, lc, hov⟩ := qG HR.out
   subst hov
   go_wp2
   go_ret2
   refine ⟨?_, HB1.out.trans (HB.out.mono HB1.out.size)⟩
   have := HR.out
   rw [List.take_length] at this
   have h2 := Sc.qA2 this HB1.out.size
   rw [hl] at h2
   exact ⟨_, rfl, h2⟩
def uC (e : Value) (ln : Int) (nv lm iv pp pv rv : Value) : Array Value := #[e, .int .i64 ln, nv, lm, iv, pp, pv, rv]
theorem infoIt : (Tryz.prog.info? 198).map (fun i => (i.zero, i.size, i.bytes)) = some (some (.agg #[.int .i64 0, .int .i64 0, .int .i64 0, .int .i64 0, .nilFunc, .nilFunc]), 6, 48) := by kernel_rfl
theorem add_any (gu B n : Nat) (e nv lm iv pp pv rv fa by' : Value) (ln li si up al : Int) (xs : List Value) (w : World) (hB : B <= w.heap.size) (hu : w.heap[gu]? = some (.cells (uC e ln nv lm iv pp pv rv) 141 (0, 0))) (hr : w.ownsRow B 198 6 iv n xs) (hgB : gu < B) (hn : n <= 100000) (hf1 : fa = .nilFunc \/ ∃ a b c, fa = .func a b c) (hb1 : ∃ a b c, by' = .func a b c) :
  Calls Tryz.prog 94 #[.pointer (some ⟨gu, 0, none⟩), itV li si up al fa by'] w fun r w' => r = .returned (.tuple #[]) /\
   (∃ iv', w'.heap[gu]? = some (.cells (uC e ln nv lm iv' pp pv rv) 141 (0, 0)) /\ w'.ownsRow B 198 6 iv' (n + 1) (xs ++ [.int .i64 ln, .int .i64 si, .int .i64 up, .int .i64 al, fa, by'])) /\ Fr gu B w w' /\ (∀ i, i < w.heap.size -> i ≠ gu -> some i ≠ iv.ownBlock -> w'.heap[i]? = w.heap[i]?) := by
 obtain ⟨la, lc, rfl⟩ := qG hr
 have c1 : w.cell? ⟨gu, 1, none⟩ = some (.int .i64 ln) := qB hu rfl
 have c4 : w.cell? ⟨gu, 4, none⟩ = some (.slice la n lc) := qB hu rfl
 have hg := qC hu
 have hof : fa.oneCell' = true := by rcases hf1 with rfl | ⟨a, b, c, rfl⟩ <;> rfl
 have hob : by'.oneCell' = true := by obtain ⟨a, b, c, rfl⟩ := hb1; rfl
 have hrow : (((w.alloc (.cells #[.int .i64 ln, .int .i64 si, .int .i64 up, .int .i64 al, fa, by'] 198)).alloc (.cells #[.int .i64 ln, .int .i64 si, .int .i64 up, .int .i64 al, fa, by'] 198)).drew).ownsRow B 198 6 (.slice la n lc) n xs := (hr.alloc _).alloc _
 obtain ⟨v', w', happ, hr', hgr⟩ := app1 139 198 _ 6 48 Tryz.underlying139 infoIt rfl (by decide) (by decide) hrow (by simp; omega) [.int .i64 ln, .int .i64 si, .int .i64 up, .int .i64 al, fa, by'] rfl (w.heap.size + 1) (qH _ _ (by simp)) (by intro u hu; simp at hu; rcases hu with rfl | rfl | rfl | rfl | rfl | rfl <;> first | rfl | assumption) (by omega)
 obtain ⟨la', lc', rfl⟩ := qG hr'
 have hbox : (((w.alloc (.cells #[.int .i64 ln, .int .i64 si, .int .i64 up, .int .i64 al, fa, by'] 198)).alloc (.cells #[.int .i64 ln, .int .i64 si, .int .i64 up, .int .i64 al, fa, by'] 198)).drew).heap[gu]? = some (.cells (uC e ln nv lm (.slice la n lc) pp pv rv) 141 (0, 0)) := by
  show (World.alloc _ _).heap[gu]? = _
  rw [old2 _ _ (by simp; omega), old2 _ _ hg]
  exact hu
 have hbox' := (hgr.block gu (qC hbox) (qAY hrow hbox (by decide))).trans hbox
 have HF : Hid (Fr gu B w w') := by
  refine Fr.trans (Fr.below (by go_grown)) (Fr.grown hgr (by go_size) ?_)
  intro q hq
  exact .inr (hrow.lt q hq).1
 have HO : Hid (∀ i, i < w.heap.size -> i ≠ gu -> some i ≠ (Value.slice la n lc).ownBlock -> w'.heap[i]? = w.heap[i]?) := fun i hi h1 h2 => by
  rw [hgr.block i (by go_size) h2]
  show (World.alloc _ _).heap[i]? = _
  rw [old2 _ _ (by go_size), old2 _ _ hi]
 have HW : Hid ((w'.setCell ⟨gu, 4, none⟩ (.slice la' (n + 1) lc')).heap[gu]? = some (.cells (uC e ln nv lm (.slice la' (n + 1) lc') pp pv rv) 141 (0, 0)) /\ (w'.setCell ⟨gu, 4, none⟩ (.slice la' (n + 1) lc')).ownsRow B 198 6 (.slice la' (n + 1) lc') (n + 1) (xs ++ [.int .i64 ln, .int .i64 si, .int .i64 up, .int .i64 al, fa, by'])) := ⟨qJ hbox', qAr hr' hgB⟩
 have d4 : w'.cell? ⟨gu, 4, none⟩ = some (.slice la n lc) := qB hbox' rfl
 have f4 : w'.frozen? ⟨gu, 4, none⟩ = false := qD hbox'
 have hg' := qC hbox'
 obtain ⟨ba, bb, bc, rfl⟩ := hb1
 clear hrow hr' hgr hbox hbox' hu hr hof hob
 unfold itV
 rcases hf1 with rfl | ⟨fa1, fa2, fa3, rfl⟩
 all_goals
  go_enter Tryz.func94, Tryz.ntmps94
  go_wp2_with fail
  go_region_law (refine qCJ rfl _ _ _ _ rfl _ _ rfl rfl happ ?_)
  all_goals exact bodyPost_end (v := .tuple #[]) (by simp [results, Tryz.results94, go_sem]) rfl ⟨rfl, ⟨_, HW.out⟩, HF.out.trans (Fr.of (gset w' gu 4 _) (Nat.le_trans hB HF.out.size)), fun i hi h1 h2 => by rw [Below.heap_setCell _ _ _ _ h1]; exact HO.out i hi h1 h2⟩
def Capt (t : TypeId) : Prop := t ∈ [185, 3, 201, 71, 269, 191, 235, 137]
instance (t : TypeId) : Decidable (Capt t) := by unfold Capt; infer_instance
def GoalR (W : World) (gu : Nat) (tv : Value) : Goal -> Prop
 | .val nm n => ∃ gb gl b len c cur, tv = .func (.func 172) #[] #[.pointer (some ⟨gb, 0, none⟩), .pointer (some ⟨gl, 0, none⟩)] /\ W.heap[gb]? = some (.cells #[.pointer (some ⟨gu, 0, none⟩)] 185 (0, 0)) /\ W.heap[gl]? = some (.cells #[.slice (some ⟨b, 0, none⟩) (len + 1) c] 191 (0, 0)) /\ W.heap[b]? = some (.cells cur 235 (0, 0)) /\ (∃ kd r, cur[0]? = some (.string kd) /\ cur[1]? = some (.int .i64 r)) /\ cur[2]? = some (.string ⟨nm.toArray⟩) /\ cur[3]? = some (.int .i64 n)
 | .slot gp i => ∃ gb gq gi, tv = .func (.func 202) #[] #[.pointer (some ⟨gb, 0, none⟩), .pointer (some ⟨gq, 0, none⟩), .pointer (some ⟨gi, 0, none⟩)] /\ W.heap[gb]? = some (.cells #[.pointer (some ⟨gu, 0, none⟩)] 185 (0, 0)) /\ W.heap[gq]? = some (.cells #[.pointer (some ⟨gp, 0, none⟩)] 137 (0, 0)) /\ W.heap[gi]? = some (.cells #[.int .i64 i] 3 (0, 0))
def GenR (W : World) (gu : Nat) (x : It) (fa by' : Value) : Prop :=
 match x.gen with
 | .fill => fa = .nilFunc /\ by' = .func (.func 135) #[] #[]
 | .num nm n => fa = .nilFunc /\ ∃ gb gs gv, by' = .func (.func 136) #[] #[.pointer (some ⟨gv, 0, none⟩), .pointer (some ⟨gs, 0, none⟩), .pointer (some ⟨gb, 0, none⟩)] /\ W.heap[gb]? = some (.cells #[.pointer (some ⟨gu, 0, none⟩)] 185 (0, 0)) /\ W.heap[gs]? = some (.cells #[.int .i64 x.size] 3 (0, 0)) /\ W.heap[gv]? = some (.cells #[.string ⟨nm.toArray⟩, .int .i64 n] 201 (0, 0))
 | .plain op n m imm => fa = .nilFunc /\ ∃ gi, by' = .func (.func 205) #[] #[.pointer (some ⟨gi, 0, none⟩)] /\ W.heap[gi]? = some (.cells #[.int .i64 op, .int .i64 n, .int .i64 m, .int .i64 imm] 71 (0, 0))
 | .lead op n m imm q => ∃ gt gi tv, fa = (if Isa.qAc op = 4 then .func (.func 200) #[] #[.pointer (some ⟨gt, 0, none⟩)] else .nilFunc) /\ by' = .func (.func 196) #[] #[.pointer (some ⟨gt, 0, none⟩), .pointer (some ⟨gi, 0, none⟩)] /\ W.heap[gt]? = some (.cells #[tv] 269 (0, 0)) /\ W.heap[gi]? = some (.cells #[.int .i64 op, .int .i64 n, .int .i64 m, .int .i64 imm] 71 (0, 0)) /\ GoalR W gu tv q
def qKv (W W' : World) : Prop := W.heap.size <= W'.heap.size /\ ∀ (q : Nat) (c : Array Value) (t : TypeId) (f : Nat × Nat), W.heap[q]? = some (.cells c t f) -> Capt t -> W'.heap[q]? = some (.cells c t f)
theorem qKv.of {W W' : World} (h : Below W.heap.size W W') : qKv W W' := ⟨h.size, fun q c t f hb _ => by rw [h.block q (qC hb)]; exact hb⟩
theorem GoalR.stays {W W' : World} {gu : Nat} {tv : Value} {q : Goal} (h : GoalR W gu tv q) (k : ∀ {q : Nat} {c : Array Value} {t : TypeId}, W.heap[q]? = some (.cells c t (0, 0)) -> Capt t -> W'.heap[q]? = some (.cells c t (0, 0))) : GoalR W' gu tv q := by
 cases q with
 | val nm n =>
   obtain ⟨gb, gl, b, len, c, cur, e, h1, h2, h3, h4⟩ := h
   exact ⟨gb, gl, b, len, c, cur, e, k h1 (by decide), k h2 (by decide), k h3 (by decide), h4⟩
 | slot gp i =>
   obtain ⟨gb, gq, gi, e, h1, h2, h3⟩ := h
   exact ⟨gb, gq, gi, e, k h1 (by decide), k h2 (by decide), k h3 (by decide)⟩
theorem GenR.stays {W W' : World} {gu : Nat} {x : It} {fa by' : Value} (h : GenR W gu x fa by') (k : ∀ {q : Nat} {c : Array Value} {t : TypeId}, W.heap[q]? = some (.cells c t (0, 0)) -> Capt t -> W'.heap[q]? = some (.cells c t (0, 0))) : GenR W' gu x fa by' := by
 unfold GenR at h ⊢
 cases hx : x.gen with
 | fill => rw [hx] at h; exact h
 | num nm n =>
   rw [hx] at h
   obtain ⟨h0, gb, gs, gv, e, a, b, c⟩ := h
   exact ⟨h0, gb, gs, gv, e, k a (by decide), k b (by decide), k c (by decide)⟩
 | plain op n m imm =>
   rw [hx] at h
   obtain ⟨h0, gi, e, a⟩ := h
   exact ⟨h0, gi, e, k a (by decide)⟩
 | lead op n m imm q =>
   rw [hx] at h
   obtain ⟨gt, gi, tv, h0, e, a, b, c⟩ := h
   exact ⟨gt, gi, tv, h0, e, k a (by decide), k b (by decide), c.stays k⟩
theorem GenR.keep {W W' : World} {gu : Nat} {x : It} {fa by' : Value} (h : GenR W gu x fa by') (k : qKv W W') : GenR W' gu x fa by' := h.stays fun a b => k.2 _ _ _ _ a b
theorem GenR.shape {W : World} {gu : Nat} {x : It} {fa by' : Value} (h : GenR W gu x fa by') : (fa = .nilFunc \/ ∃ a b c, fa = .func a b c) /\ ∃ a b c, by' = .func a b c := by
 unfold GenR at h
 cases hx : x.gen with
 | fill => rw [hx] at h; exact ⟨.inl h.1, _, _, _, h.2⟩
 | num nm n => rw [hx] at h; obtain ⟨h0, _, _, _, e, _⟩ := h; exact ⟨.inl h0, _, _, _, e⟩
 | plain op n m imm => rw [hx] at h; obtain ⟨h0, _, e, _⟩ := h; exact ⟨.inl h0, _, _, _, e⟩
 | lead op n m imm q =>
   rw [hx] at h
   obtain ⟨_, _, _, h0, e, _⟩ := h
   refine ⟨?_, _, _, _, e⟩
   rw [h0]
   split
   ·exact .inr ⟨_, _, _, rfl⟩
   ·exact .inl rfl
def NoFar (x : It) : Prop := match x.gen with | .lead op _ _ _ _ => Isa.qAc op ≠ 4 | _ => True
theorem GenR.noFar {W : World} {gu : Nat} {x : It} {fa by' : Value} (h : GenR W gu x fa by') (hn : NoFar x) : fa = .nilFunc := by
 unfold GenR at h
 unfold NoFar at hn
 cases hx : x.gen with
 | fill => rw [hx] at h; exact h.1
 | num nm n => rw [hx] at h; exact h.1
 | plain op n m imm => rw [hx] at h; exact h.1
 | lead op n m imm q =>
   rw [hx] at h hn
   obtain ⟨_, _, _, h0, _⟩ := h
   rw [h0, if_neg hn]
def itC (l : List (It × Value × Value)) : List Value := l.flatMap fun p => [.int .i64 p.1.line, .int .i64 p.1.size, .int .i64 p.1.upTo, .int .i64 p.1.align, p.2.1, p.2.2]
structure UR (W : World) (B gu : Nat) (e : Value) (ln : Int) (nv lm pp pv rv : Value) (its : List It) : Prop where
 lt : gu < B
 le : B <= W.heap.size
 its : ∃ iv l, W.heap[gu]? = some (.cells (uC e ln nv lm iv pp pv rv) 141 (0, 0)) /\ W.ownsRow B 198 6 iv its.length (itC l) /\ l.map (·.1) = its /\ ∀ p, p ∈ l -> GenR W gu p.1 p.2.1 p.2.2
theorem UR.go {W W' : World} {B gu : Nat} {e : Value} {ln : Int} {nv lm pp pv rv : Value} {its : List It} (h : UR W B gu e ln nv lm pp pv rv its) (hb : Below W.heap.size W W') : UR W' B gu e ln nv lm pp pv rv its := by
 obtain ⟨iv, l, h1, h2, h3, h4⟩ := h.its
 exact ⟨h.lt, Nat.le_trans h.le hb.size, iv, l, by rw [hb.block _ (qC h1)]; exact h1, Sc.qd h2 hb (Nat.le_refl _), h3, fun p hp => (h4 p hp).keep (qKv.of hb)⟩
theorem opC_at : ∀ (l : List Opd) (i : Nat) (h : i < l.length), (opC l)[i * 4]? = some (.string l[i].kd) /\ (opC l)[i * 4 + 1]? = some (.int .i64 l[i].r) /\ (opC l)[i * 4 + 2]? = some (.string l[i].nm) /\ (opC l)[i * 4 + 3]? = some (.int .i64 l[i].n)
 | [], i, h => by simp at h
 | t :: r, 0, h => by simp [opC]
 | t :: r, i + 1, h => by
   have ih := opC_at r i (by simpa using h)
   have e : opC (t :: r) = [.string t.kd, .int .i64 t.r, .string t.nm, .int .i64 t.n] ++ opC r := by simp [opC]
   rw [e, show (i + 1) * 4 = 4 + i * 4 by omega]
   simp only [List.getElem_cons_succ]
   refine ⟨?_, ?_, ?_, ?_⟩
   ·rw [List.getElem?_append_right (by simp)]; simpa using ih.1
   ·rw [List.getElem?_append_right (by simp; omega)]; simpa [show 4 + i * 4 + 1 - 4 = i * 4 + 1 by omega] using ih.2.1
   ·rw [List.getElem?_append_right (by simp; omega)]; simpa [show 4 + i * 4 + 2 - 4 = i * 4 + 2 by omega] using ih.2.2.1
   ·rw [List.getElem?_append_right (by simp; omega)]; simpa [show 4 + i * 4 + 3 - 4 = i * 4 + 3 by omega] using ih.2.2.2
def labelled (ts : List Tk) : Bool := (qBQ ts).k == 1 && ((qBQ ts.tail).k == 3 && (qBQ ts.tail).t.toList == [58])
theorem qG5 (gu : Nat) (v : Value) (ts : List Tk) (w : World) (h : qI w v ts) (hl : labelled ts = false) :
  Calls Tryz.prog 89 #[.pointer (some ⟨gu, 0, none⟩), v] w fun r w' => r = .returned (.tuple #[v, .int .i64 0]) /\ Below w.heap.size w w' := by
 have HN := Lib.hid fun W (hb : Below w.heap.size w W) => qBN v ts W (h.below hb (Nat.le_refl _))
 have HN2 := Lib.hid fun v' (hv : qI w v' ts.tail) W (hb : Below w.heap.size w W) => qBN v' ts.tail W (hv.below hb (Nat.le_refl _))
 have HW := Lib.hid fun W => qDD (qBQ ts).k (qBQ ts).n (qBQ ts).t W
 have HS := Lib.hid fun W => qBq (qBQ ts.tail).k (qBQ ts.tail).n (qBQ ts.tail).t ⟨#[58]⟩ W
 have e58 : (⟨#[58]⟩ : ByteArray).toList = [58] := by simp [ByteArray.toList_eq]
 rw [e58] at HS
 have hl2 : ((qBQ ts).k == 1 && ((qBQ ts.tail).k == 3 && (qBQ ts.tail).t.toList == [58])) = false := hl
 clear e58
 obtain ⟨ad, cap, rfl, _⟩ := h
 generalize ts.tail = tl at *
 generalize qBQ ts = x at *
 generalize qBQ tl = y at *
 generalize ((x.k == 1) : Bool) = p1 at *
 generalize ((y.k == 3 && y.t.toList == [58]) : Bool) = p2 at *
 obtain ⟨xk, xn, xt⟩ := x
 obtain ⟨yk, yn, yt⟩ := y
 unfold Tk.V tokV at *
 simp only at *
 clear hl
 go_enter Tryz.func89, Tryz.ntmps89
 go_wp2_with fail
 refine wp_loop_rounds 1 ?_
 rw [rounds_succ]
 go_wp2_with fail
 refine (HN.out _ (Below.refl _ _)).mono ?_
 rintro e w1 ⟨⟨v', rfl, hv⟩, hb1⟩
 obtain ⟨ad', cap', rfl, _⟩ := id hv
 have HV := Lib.hid hv
 have HB1 := Lib.hid hb1
 clear hv hb1 HN
 go_wp2_with fail
 refine (HN2.out _ HV.out _ (HB1.out.alloc HB1.out.size _)).mono ?_
 rintro e w2 ⟨⟨v2, rfl, hv2⟩, hb2⟩
 obtain ⟨ad2, cap2, rfl, _⟩ := hv2
 obtain ⟨hB2, hz2, xr⟩ := qS hb2
 have t0 : w2.cell? ⟨w1.heap.size, 0, none⟩ = some (.int .i64 xk) := qB xr rfl
 have t1 : w2.cell? ⟨w1.heap.size, 1, none⟩ = some (.int .i64 xn) := qB xr rfl
 have t2 : w2.cell? ⟨w1.heap.size, 2, none⟩ = some (.string xt) := qB xr rfl
 have HB2 := Lib.hid (HB1.out.trans (hB2.mono HB1.out.size))
 clear hb2 hB2 xr HB1 HN2 HV
 cases p1
 ·go_wp2_with (first
   | (go_at_call 91; refine (HW.out _).mono ?_; rintro e w3 ⟨rfl, hb3⟩; have HB3 : Hid (Below w.heap.size w w3) := Below.trans (by have hb := HB2.out; have := HB2.out.size; go_grown) (hb3.mono (by have := HB2.out.size; go_size)); clear hb3)
   | fail)
  go_ret2
  exact ⟨rfl, HB3.out⟩
 ·have hp2 : p2 = false := by simpa using hl2
  subst hp2
  go_wp2_with (first
   | (go_at_call 91; refine (HW.out _).mono ?_; rintro e w3 ⟨rfl, hb3⟩; obtain ⟨hB3, hz3, yr⟩ := qS hb3; have s0 : w3.cell? ⟨w2.heap.size, 0, none⟩ = some (.int .i64 yk) := qB yr rfl; have s1 : w3.cell? ⟨w2.heap.size, 1, none⟩ = some (.int .i64 yn) := qB yr rfl; have s2 : w3.cell? ⟨w2.heap.size, 2, none⟩ = some (.string yt) := qB yr rfl; have HB3 : Hid (Below w.heap.size w w3) := HB2.out.trans (hB3.mono HB2.out.size); clear hb3 hB3 yr)
   | (go_at_call 125; refine (HS.out _).mono ?_; rintro e w4 ⟨rfl, hb4⟩; have HB4 : Hid (Below w.heap.size w w4) := HB3.out.trans (hb4.mono HB3.out.size); clear hb4))
  go_ret2
  exact ⟨rfl, HB4.out⟩
theorem itC_at : ∀ (l : List (It × Value × Value)) (i : Nat) (h : i < l.length), (itC l)[i * 6]? = some (.int .i64 l[i].1.line) /\ (itC l)[i * 6 + 1]? = some (.int .i64 l[i].1.size) /\ (itC l)[i * 6 + 2]? = some (.int .i64 l[i].1.upTo) /\ (itC l)[i * 6 + 3]? = some (.int .i64 l[i].1.align) /\ (itC l)[i * 6 + 4]? = some l[i].2.1 /\ (itC l)[i * 6 + 5]? = some l[i].2.2
 | [], i, h => by simp at h
 | t :: r, 0, h => by simp [itC]
 | t :: r, i + 1, h => by
   have ih := itC_at r i (by simpa using h)
   have e : itC (t :: r) = [.int .i64 t.1.line, .int .i64 t.1.size, .int .i64 t.1.upTo, .int .i64 t.1.align, t.2.1, t.2.2] ++ itC r := by simp [itC]
   rw [e, show (i + 1) * 6 = 6 + i * 6 by omega]
   simp only [List.getElem_cons_succ]
   refine ⟨?_, ?_, ?_, ?_, ?_, ?_⟩
   ·rw [List.getElem?_append_right (by simp)]; simpa using ih.1
   ·rw [List.getElem?_append_right (by simp; omega)]; simpa [show 6 + i * 6 + 1 - 6 = i * 6 + 1 by omega] using ih.2.1
   ·rw [List.getElem?_append_right (by simp; omega)]; simpa [show 6 + i * 6 + 2 - 6 = i * 6 + 2 by omega] using ih.2.2.1
   ·rw [List.getElem?_append_right (by simp; omega)]; simpa [show 6 + i * 6 + 3 - 6 = i * 6 + 3 by omega] using ih.2.2.2.1
   ·rw [List.getElem?_append_right (by simp; omega)]; simpa [show 6 + i * 6 + 4 - 6 = i * 6 + 4 by omega] using ih.2.2.2.2.1
   ·rw [List.getElem?_append_right (by simp; omega)]; simpa [show 6 + i * 6 + 5 - 6 = i * 6 + 5 by omega] using ih.2.2.2.2.2
theorem qDR {w : World} {base : Nat} {ia : Option Addr} {n ic : Nat} {l : List (It × Value × Value)} (h : w.ownsRow base 198 6 (.slice ia n ic) n (itC l)) (hl : l.length = n) {i : Nat} (hi : i < n) :
  ∃ g cur, ia = some ⟨g, 0, none⟩ /\ w.heap[g]? = some (.cells cur 198 (0, 0)) /\ ∀ W : World, W.heap[g]? = w.heap[g]? -> g < W.heap.size /\ W.cell? ⟨g, i * 6, none⟩ = some (.int .i64 (l[i]'(by omega)).1.line) /\ W.cell? ⟨g, i * 6 + 1, none⟩ = some (.int .i64 (l[i]'(by omega)).1.size) /\ W.cell? ⟨g, i * 6 + 2, none⟩ = some (.int .i64 (l[i]'(by omega)).1.upTo) /\ W.cell? ⟨g, i * 6 + 3, none⟩ = some (.int .i64 (l[i]'(by omega)).1.align) /\ W.cell? ⟨g, i * 6 + 4, none⟩ = some (l[i]'(by omega)).2.1 /\ W.cell? ⟨g, i * 6 + 5, none⟩ = some (l[i]'(by omega)).2.2 := by
 rcases id h.2 with ⟨hv, h0⟩ | ⟨g, cap, cur, hv, hg, hgg, _⟩
 ·omega
 ·injection hv with e1 _ _
  subst e1
  refine ⟨g, cur, rfl, hgg, fun W hW => ?_⟩
  have hcc : ∀ j, W.cell? ⟨g, j, none⟩ = w.cell? ⟨g, j, none⟩ := fun j => by simp only [World.cell?, hW]
  obtain ⟨a, b, c, d, e, f⟩ := itC_at l i (by omega)
  have hadd : ∀ j, (⟨g, 0, none⟩ : Addr).add j = ⟨g, 0 + j, none⟩ := fun j => by unfold Addr.add; split <;> simp_all
  have q0 := h.cells rfl _ _ a
  have q1 := h.cells rfl _ _ b
  have q2 := h.cells rfl _ _ c
  have q3 := h.cells rfl _ _ d
  have q4 := h.cells rfl _ _ e
  have q5 := h.cells rfl _ _ f
  rw [hadd, Nat.zero_add, <- hcc] at q0 q1 q2 q3 q4 q5
  exact ⟨qC (hW.trans hgg), q0, q1, q2, q3, q4, q5⟩
theorem qGK : ∀ (l : List It) (p : Int) (k : Nat) (h : k < l.length), (qAL p l).getD (k + 1) 0 = (qAL p l).getD k 0 + (l[k].size + (l[k].upTo - ((qAL p l).getD k 0).tmod l[k].upTo).tmod l[k].upTo)
 | [], p, k, h => by simp at h
 | x :: r, p, 0, h => by
   cases r <;> simp [qAL]
 | x :: r, p, k + 1, h => by
   have := qGK r (p + (x.size + (x.upTo - p.tmod x.upTo).tmod x.upTo)) k (by simpa using h)
   simp only [qAL, List.getD_cons_succ, List.getElem_cons_succ]
   exact this
def qJp (x : It) : Prop := 0 <= x.size /\ x.size <= 6 /\ 1 <= x.upTo /\ x.upTo <= 16
theorem qCs : ∀ (l : List It) (p : Int) (k : Nat), 0 <= p -> (∀ x, x ∈ l -> qJp x) -> k <= l.length -> 0 <= (qAL p l).getD k 0 /\ (qAL p l).getD k 0 <= p + 22 * k
 | [], p, k, hp, _, hk => by
   obtain rfl : k = 0 := by simpa using hk
   simp [qAL, hp]
 | x :: r, p, 0, hp, _, _ => by simp [qAL, hp]
 | x :: r, p, k + 1, hp, hx, hk => by
   obtain ⟨h1, h2, h3, h4⟩ := hx x (by simp)
   have ha : 0 <= p.tmod x.upTo /\ p.tmod x.upTo < x.upTo := ⟨Int.tmod_nonneg _ hp, Int.tmod_lt_of_pos _ (by omega)⟩
   have hb : 0 <= (x.upTo - p.tmod x.upTo).tmod x.upTo /\ (x.upTo - p.tmod x.upTo).tmod x.upTo < x.upTo := ⟨Int.tmod_nonneg _ (by omega), Int.tmod_lt_of_pos _ (by omega)⟩
   have := qCs r (p + (x.size + (x.upTo - p.tmod x.upTo).tmod x.upTo)) k (by omega) (fun y hy => hx y (by simp [hy])) (by simpa using hk)
   simp only [qAL, List.getD_cons_succ]
   omega
def PlR (W : World) (gp n k : Nat) (ps : List Int) : Prop := ∃ cs : Array Value, W.heap[gp]? = some (.cells cs 3 (0, 0)) /\ cs.size = n + 1 /\ (∀ i, i <= n -> ∃ z : Int, cs[i]? = some (.int .i64 z)) /\ ∀ i, i < k -> cs[i]? = some (.int .i64 (ps.getD i 0))
theorem PlR.set {W : World} {gp n k : Nat} {ps : List Int} (h : PlR W gp n k ps) (hk : k <= n) {z : Int} (hz : z = ps.getD k 0) : PlR (W.setCell ⟨gp, k, none⟩ (.int .i64 z)) gp n (k + 1) ps := by
 obtain ⟨cs, h1, h2, h3, h4⟩ := h
 refine ⟨_, qJ h1, by simpa using h2, fun i hi => ?_, fun i hi => ?_⟩
 ·by_cases e : i = k
  ·subst e; exact ⟨z, Array.getElem?_setIfInBounds_self_of_lt (by omega)⟩
  ·rw [Array.getElem?_setIfInBounds_ne (by omega)]; exact h3 i hi
 ·by_cases e : i = k
  ·subst e; rw [Array.getElem?_setIfInBounds_self_of_lt (by omega), hz]
  ·rw [Array.getElem?_setIfInBounds_ne (by omega)]; exact h4 i (by omega)
theorem PlR.go {W W' : World} {gp n k : Nat} {ps : List Int} (h : PlR W gp n k ps) (hb : Below W.heap.size W W') : PlR W' gp n k ps := by
 obtain ⟨cs, h1, h2⟩ := h
 exact ⟨cs, by rw [hb.block _ (qC h1)]; exact h1, h2⟩
theorem qFA (gu B gp : Nat) (e nv lm pp rv : Value) (ln : Int) (its : List It) (w : World) (h : UR w B gu e ln nv lm pp (.slice (some ⟨gp, 0, none⟩) (its.length + 1) (its.length + 1)) rv its) (hp : PlR w gp its.length 0 []) (hx : ∀ x, x ∈ its -> qJp x) (hn : its.length <= 100000) :
  Calls Tryz.prog 97 #[.pointer (some ⟨gu, 0, none⟩)] w fun r w' => r = .returned (.tuple #[]) /\ PlR w' gp its.length (its.length + 1) (qAL 0 its) /\ w.grownBy w' (some gp) := by
 obtain ⟨iv, l, h1, h2, h3, h4⟩ := h.its
 obtain ⟨ia, ic, rfl⟩ := qG h2
 have hll : l.length = its.length := by rw [<- h3]; simp
 have hne : gu ≠ gp := by
  intro e
  subst e
  obtain ⟨cs, k1, _⟩ := hp
  have := h1.symm.trans k1
  simp at this
 have c4 : w.cell? ⟨gu, 4, none⟩ = some (.slice ia its.length ic) := qB h1 rfl
 have hg := qC h1
 have H1 := Lib.hid h1
 have H2 := Lib.hid h2
 have H3 := Lib.hid h3
 have HX := Lib.hid hx
 have HP : Hid (PlR w gp its.length 0 (qAL 0 its)) := by
  obtain ⟨cs, k1, k2, k3, _⟩ := hp
  exact ⟨cs, k1, k2, k3, fun i hi => by omega⟩
 have H4 : Hid (∀ p, p ∈ l -> (p.2.1 = .nilFunc \/ ∃ a b c, p.2.1 = .func a b c) /\ ∃ a b c, p.2.2 = .func a b c) := fun p hp => (h4 p hp).shape
 clear h h1 h2 h3 h4 hp hx
 go_enter Tryz.func97, Tryz.ntmps97
 go_wp2_with fail
 go_loopw [2, 10] (fun av iv wr => ∃ k : Nat, k <= its.length /\ iv = .int .i64 k /\ av = .int .i64 ((qAL 0 its).getD k 0) /\ Hid (PlR wr gp its.length k (qAL 0 its)) /\ Hid (w.grownBy wr (some gp))) (fun _ iv _ => its.length - (intOf iv).toNat)
 case atStart => exact ⟨0, Nat.zero_le _, rfl, by cases its <;> rfl, HP, World.grownBy.refl _ _⟩
 case round =>
  obtain ⟨k, hk, rfl, rfl, HQ, HG⟩ := hrel
  have HST := Lib.hid (qGK its 0 k)
  have hbd := qCs its 0 k (Int.le_refl _) HX.out hk
  have hu1 : wr.heap[gu]? = _ := (HG.out.block gu hg (by intro e; injection e with e; exact hne e)).trans H1.out
  have y4 : wr.cell? ⟨gu, 4, none⟩ = some (.slice ia its.length ic) := qB hu1 rfl
  have y6 : wr.cell? ⟨gu, 6, none⟩ = some (.slice (some ⟨gp, 0, none⟩) (its.length + 1) (its.length + 1)) := qB hu1 rfl
  have hg1 := qC hu1
  obtain ⟨z, hz⟩ : ∃ z : Int, wr.cell? ⟨gp, k, none⟩ = some (.int .i64 z) := by
   obtain ⟨cs, k1, k2, k3, _⟩ := HQ.out
   obtain ⟨z, hz⟩ := k3 k hk
   exact ⟨z, qB k1 hz⟩
  have hfz : wr.frozen? ⟨gp, k, none⟩ = false := by obtain ⟨cs, k1, _⟩ := HQ.out; exact qD k1
  have hgp : gp < wr.heap.size := by obtain ⟨cs, k1, _⟩ := HQ.out; exact qC k1
  obtain ⟨q, hq⟩ : ∃ q, (qAL 0 its).getD k 0 = q := ⟨_, rfl⟩
  have HPS := Lib.hid (HQ.out.set hk hq.symm)
  rw [hq] at hbd ⊢
  by_cases hlt : k < its.length
  ·have hk' : (k : Int) < its.length := by omega
   have HS2 := Lib.hid (HST.out hlt)
   rw [hq] at HS2
   obtain ⟨g, cur, rfl, hgc, hcells⟩ := qDR H2.out hll hlt
   have hgg : wr.heap[g]? = w.heap[g]? := HG.out.block g (qC hgc) (by
    intro e; injection e with e; subst e
    obtain ⟨cs, k1, _⟩ := HP.out
    have := hgc.symm.trans k1
    simp at this)
   obtain ⟨hgl, i0, i1, i2, i3, i4, i5⟩ := hcells wr hgg
   have hlk : (l[k]'(by omega)).1 = its[k] := by
    have := H3.out
    subst this
    simp
   obtain ⟨x1, x2, x3, x4⟩ := HX.out its[k] (List.getElem_mem _)
   rw [hlk] at i0 i1 i2 i3
   generalize its[k].size = sz at *
   generalize its[k].upTo = up at *
   generalize its[k].line = li at *
   generalize its[k].align = al at *
   obtain ⟨hf1, fa, fb, fc, hf2⟩ := H4.out (l[k]'(by omega)) (List.getElem_mem _)
   rcases hf1 with hf1 | ⟨xa, xb, xc, hf1⟩
   all_goals
    rw [hf1] at i4
    rw [hf2] at i5
    clear hcells hq hf1 hf2 hlk
    have hup : up ≠ 0 := by omega
    have hr1 : 0 <= q.tmod up /\ q.tmod up < up := ⟨Int.tmod_nonneg _ hbd.1, Int.tmod_lt_of_pos _ (by omega)⟩
    have hr2 : 0 <= (up - q.tmod up).tmod up /\ (up - q.tmod up).tmod up < up := ⟨Int.tmod_nonneg _ (by omega), Int.tmod_lt_of_pos _ (by omega)⟩
    go_wp2_with fail
    go_quiet (fail)
    have ev : wrap64 (q + wrap64 (sz + (wrap64 (up - q % up)).tmod up)) = (qAL 0 its).getD (k + 1) 0 := by
     have e1 : q % up = q.tmod up := (Int.tmod_eq_emod_of_nonneg hbd.1).symm
     have e2 : wrap64 (up - q.tmod up) = up - q.tmod up := by unfold wrap64; omega
     rw [e1, e2, HS2.out]
     unfold wrap64
     omega
    have HEV := Lib.hid ev
    clear ev
    go_wp2
    refine ⟨⟨k + 1, by omega, by go_num, by rw [HEV.out], ?_, ?_⟩, by simp [intOf]; omega⟩
    ·exact HPS.out.go (below_drewN (qE _ _) _)
    ·exact gtrans (gtrans HG.out (gset _ _ _ _)) (gbelow _ (below_drewN (qE _ _) _) (Nat.le_refl _))
  ·obtain rfl : k = its.length := by omega
   have hk' : ¬ ((its.length : Nat) : Int) < its.length := by omega
   go_wp2
   go_region
   all_goals exact bodyPost_end (v := .tuple #[]) (by simp [results, Tryz.results97, go_sem]) rfl ⟨rfl, HPS.out.go (Below.refl _ _).drew, gtrans (gtrans HG.out (gset _ _ _ _)) (gbelow _ (Below.refl _ _).drew (Nat.le_refl _))⟩
theorem infoI : (Tryz.prog.info? 3).map (fun i => (i.zero, i.size, i.bytes)) = some (some (.int .i64 0), 1, 8) := by kernel_rfl
theorem makeI (n : Nat) (h : n <= 1000000) (w : World) : (Instr.makeSlice 22 (.int .i64 (n : Int)) (.int .i64 (n : Int))).run Tryz.prog w = .ok (.slice (some ⟨w.heap.size, 0, none⟩) n n) (w.alloc (.cells (madeCells #[.int .i64 0] n) 3)) :=
 run_make_row' 22 3 (.int .i64 0) 8 (by kernel_rfl) infoI rfl .i64 .i64 n (by omega) (by omega) w
theorem PlR.made (w : World) (n : Nat) : PlR (w.alloc (.cells (madeCells #[.int .i64 0] (n + 1)) 3)) w.heap.size n 0 [] := by
 refine ⟨_, qH _ _ rfl, size_madeCells _ _, fun i hi => ⟨0, ?_⟩, fun i hi => by omega⟩
 rw [madeCells, Array.getElem?_map, Array.getElem?_range, if_pos (by omega)]
 simp [Nat.mod_one]
def NoLong (gu B : Nat) (e nv lm pp rv : Value) (ln : Int) (its : List It) : Prop := ∀ pv w, UR w B gu e ln nv lm pp pv rv its -> Calls Tryz.prog 98 #[.pointer (some ⟨gu, 0, none⟩)] w fun r w' => r = .returned (.bool false) /\ Below w.heap.size w w'
theorem GenR.fr {w w' : World} {gu : Nat} {c : Array Value} {x : It} {fa by' : Value} (h : GenR w gu x fa by') (hu : w.heap[gu]? = some (.cells c 141 (0, 0))) (hf : ∀ i, i < w.heap.size -> i ≠ gu -> w'.heap[i]? = w.heap[i]?) : GenR w' gu x fa by' := h.stays fun {q cs t} hq ht => by
 have h1 : t ≠ 141 := by rintro rfl; exact absurd ht (by decide)
 rw [hf q (qC hq) (by intro e; subst e; rw [hu] at hq; injection hq with hq; injection hq with _ h2; exact h1 h2.symm)]
 exact hq
theorem UR.fr {w w' : World} {B gu : Nat} {e : Value} {ln : Int} {nv lm pp pv rv pv' rv' : Value} {its : List It} (h : UR w B gu e ln nv lm pp pv rv its) (hs : w.heap.size <= w'.heap.size) (hf : ∀ i, i < w.heap.size -> i ≠ gu -> w'.heap[i]? = w.heap[i]?)
  (hb : ∀ iv, w.heap[gu]? = some (.cells (uC e ln nv lm iv pp pv rv) 141 (0, 0)) -> w'.heap[gu]? = some (.cells (uC e ln nv lm iv pp pv' rv') 141 (0, 0))) : UR w' B gu e ln nv lm pp pv' rv' its := by
 obtain ⟨iv, l, h1, h2, h3, h4⟩ := h.its
 refine ⟨h.lt, Nat.le_trans h.le hs, iv, l, hb iv h1, ⟨h2.1, ?_⟩, h3, fun p hp => (h4 p hp).fr h1 hf⟩
 rcases h2.2 with h5 | ⟨g, cap, cur, h5, h6, h7, h8⟩
 ·exact .inl h5
 ·exact .inr ⟨g, cap, cur, h5, h6, by rw [hf g (qC h7) (by have := h.lt; omega)]; exact h7, h8⟩
theorem qGl (gu B : Nat) (e nv lm pp pv rv : Value) (hpv : ∃ a b c, pv = .slice a b c) (ln : Int) (its : List It) (w : World) (h : UR w B gu e ln nv lm pp pv rv its) (hn : its.length <= 100000) (hx : ∀ x, x ∈ its -> qJp x) (hNL : NoLong gu B e nv lm pp rv ln its) (hlast : (qAL 0 its).getD its.length 0 <= 8000) :
  Calls Tryz.prog 73 #[.pointer (some ⟨gu, 0, none⟩)] w fun r w' => r = .returned (.int .i64 0) /\ (∃ gp, w.heap.size <= gp /\ UR w' B gu e ln nv lm pp (.slice (some ⟨gp, 0, none⟩) (its.length + 1) (its.length + 1)) rv its /\ PlR w' gp its.length (its.length + 1) (qAL 0 its)) /\ Fr gu w.heap.size w w' := by
 obtain ⟨iv, l, h1, h2, h3, h4⟩ := id h.its
 obtain ⟨ia, ic, rfl⟩ := qG h2
 obtain ⟨pa, pb, pc, rfl⟩ := hpv
 have c4 : w.cell? ⟨gu, 4, none⟩ = some (.slice ia its.length ic) := qB h1 rfl
 have c6 : w.cell? ⟨gu, 6, none⟩ = some (.slice pa pb pc) := qB h1 rfl
 have f6 : w.frozen? ⟨gu, 6, none⟩ = false := qD h1
 have hg := qC h1
 have hmk : ∀ W, (Instr.makeSlice 22 (.int .i64 ((its.length : Int) + 1)) (.int .i64 ((its.length : Int) + 1))).run Tryz.prog W = .ok (.slice (some ⟨W.heap.size, 0, none⟩) (its.length + 1) (its.length + 1)) (W.alloc (.cells (madeCells #[.int .i64 0] (its.length + 1)) 3)) := fun W => makeI (its.length + 1) (by omega) W
 have HU := Lib.hid h
 have HX := Lib.hid hx
 have HNL := Lib.hid hNL
 clear h h1 h2 h3 h4 hx hNL
 go_enter Tryz.func73, Tryz.ntmps73
 go_wp2_with fail
 have hF0 : Fr gu w.heap.size w ((w.setCell ⟨gu, 6, none⟩ (.slice (some ⟨w.heap.size, 0, none⟩) (its.length + 1) (its.length + 1))).alloc (.cells (madeCells #[.int .i64 0] (its.length + 1)) 3)) := (Fr.of (gset _ _ _ _) (Nat.le_refl _)).trans (Fr.below ((qE _ _).mono (by simp)))
 have hP0 : PlR ((w.setCell ⟨gu, 6, none⟩ (.slice (some ⟨w.heap.size, 0, none⟩) (its.length + 1) (its.length + 1))).alloc (.cells (madeCells #[.int .i64 0] (its.length + 1)) 3)) w.heap.size its.length 0 [] := by
  have := PlR.made (w.setCell ⟨gu, 6, none⟩ (.slice (some ⟨w.heap.size, 0, none⟩) (its.length + 1) (its.length + 1))) its.length
  simpa using this
 have hB0 : ∀ iv, w.heap[gu]? = some (.cells (uC e ln nv lm iv pp (.slice pa pb pc) rv) 141 (0, 0)) -> ((w.setCell ⟨gu, 6, none⟩ (.slice (some ⟨w.heap.size, 0, none⟩) (its.length + 1) (its.length + 1))).alloc (.cells (madeCells #[.int .i64 0] (its.length + 1)) 3)).heap[gu]? = some (.cells (uC e ln nv lm iv pp (.slice (some ⟨w.heap.size, 0, none⟩) (its.length + 1) (its.length + 1)) rv) 141 (0, 0)) := fun iv h => by
  rw [old2 _ _ (by simpa using hg)]
  exact qJ h
 generalize (w.setCell ⟨gu, 6, none⟩ (.slice (some ⟨w.heap.size, 0, none⟩) (its.length + 1) (its.length + 1))).alloc (.cells (madeCells #[.int .i64 0] (its.length + 1)) 3) = W0 at *
 have hU0 : UR W0 B gu e ln nv lm pp (.slice (some ⟨w.heap.size, 0, none⟩) (its.length + 1) (its.length + 1)) rv its := HU.out.fr hF0.size hF0.block hB0
 have HT := Lib.hid (qFA gu B w.heap.size e nv lm pp rv ln its W0 hU0 hP0 HX.out hn)
 have HAft : Hid (∀ w1, PlR w1 w.heap.size its.length (its.length + 1) (qAL 0 its) -> W0.grownBy w1 (some w.heap.size) -> UR w1 B gu e ln nv lm pp (.slice (some ⟨w.heap.size, 0, none⟩) (its.length + 1) (its.length + 1)) rv its /\ Fr gu w.heap.size w w1) := fun w1 hp hg1 => by
  have hgb : w1.heap[gu]? = W0.heap[gu]? := hg1.block gu (Nat.lt_of_lt_of_le hg hF0.size) (by intro e; injection e with e; omega)
  have hF1 : Fr gu w.heap.size w w1 := hF0.trans ⟨hg1.os, hg1.tape, hg1.output, hg1.size, fun i hi h2 => hg1.block i (Nat.lt_of_lt_of_le hi hF0.size) (by intro e; injection e with e; omega)⟩
  exact ⟨HU.out.fr hF1.size hF1.block (fun iv h => hgb.trans (hB0 iv h)), hF1⟩
 clear hF0 hP0 hB0 hU0 c4 c6 f6 hmk
 refine wp_loop_rounds 1 ?_
 rw [rounds_succ]
 go_wp2_with (go_at_call 97; refine HT.out.mono ?_; rintro e' w1 ⟨rfl, hp1, hg1⟩; obtain ⟨hU1, hF1⟩ := HAft.out w1 hp1 hg1; obtain ⟨iv1, l1, k1, k2, _⟩ := id hU1.its; obtain ⟨ja, jc, rfl⟩ := qG k2; have d4 : w1.cell? ⟨gu, 4, none⟩ = some (.slice ja its.length jc) := qB k1 rfl; have d6 : w1.cell? ⟨gu, 6, none⟩ = some (.slice (some ⟨w.heap.size, 0, none⟩) (its.length + 1) (its.length + 1)) := qB k1 rfl; have hl1 : w1.cell? ⟨w.heap.size, its.length, none⟩ = some (.int .i64 ((qAL 0 its).getD its.length 0)) := (by obtain ⟨cs, q1, _, _, q4⟩ := hp1; exact qB q1 (q4 its.length (by omega))); have hzg := qC k1; have HU1 := Lib.hid hU1; have HF1 := Lib.hid hF1; have HP1 := Lib.hid hp1; clear hU1 hF1 hp1 hg1 k1 k2)
 have hlt : ¬ (8000 : Int) < (qAL 0 its).getD its.length 0 := by omega
 go_quiet (fail)
 go_wp2_with (go_at_call 98; refine (HNL.out _ _ (HU1.out.go (below_drewN (Below.refl _ _) _))).mono ?_; rintro e' w2 ⟨rfl, hb2⟩)
 go_returns
 have hb3 : Below w1.heap.size w1 w2 := (below_drewN (Below.refl _ _) _).trans hb2
 exact ⟨rfl, ⟨w.heap.size, Nat.le_refl _, HU1.out.go hb3, HP1.out.go hb3⟩, HF1.out.trans (Fr.below (hb3.mono HF1.out.size))⟩
theorem lone_any (kd : ByteArray) (v : Value) (x : Tk) (w : World) (hG : Sc.Glob w) (h : qI w v [x]) (hx : x.k = 1) (hr : 0 <= regU 1 x.t.data.toList) :
  Calls Tryz.prog 165 #[.string kd, v] w fun r w' => r = .returned (.tuple #[opV kd (regU 1 x.t.data.toList) ⟨#[]⟩ 0, .int .i64 0]) /\ Below w.heap.size w w' := by
 have HN := Lib.hid fun W (hb : Below w.heap.size w W) => qBN v [x] W (h.below hb (Nat.le_refl _))
 have HR := Lib.hid fun W (hb : Below w.heap.size w W) => qCz x.n x.t W (hG.below hb hG.sz)
 obtain ⟨ad, cap, rfl, _⟩ := h
 generalize regU 1 x.t.data.toList = rg at *
 obtain ⟨k, n, t⟩ := x
 simp only at hx
 subst hx
 clear hG
 unfold opV
 unfold Tk.V tokV qBQ at HN
 unfold tokV at HR
 simp only [List.length_singleton] at *
 have hr' : ¬ rg < 0 := by omega
 go_enter Tryz.func165, Tryz.ntmps165
 go_wp2_with fail
 refine (HN.out _ (qE _ _)).mono ?_
 rintro e w1 ⟨⟨v', rfl, hv⟩, hb1⟩
 obtain ⟨ad', cap', rfl, _⟩ := hv
 obtain ⟨hB1, hz1, xr⟩ := qS hb1
 simp only [List.tail_cons, List.length_nil]
 have HB1 := Lib.hid hB1
 have XR := Lib.hid xr
 clear hb1 hB1 xr HN
 go_wp2_with fail
 refine (HR.out _ (HB1.out.alloc HB1.out.size _)).mono ?_
 rintro e w2 ⟨rfl, hb2⟩
 have hB2 : Below w1.heap.size w1 w2 := (qE _ _).trans (hb2.mono (by simp))
 have xr := (hB2.block _ hz1).trans XR.out
 have HB2 := Lib.hid (HB1.out.trans (hB2.mono HB1.out.size))
 have hz2 := Nat.lt_of_lt_of_le hz1 hB2.size
 obtain ⟨⟨⟨u0, u1⟩, u2, u3⟩, ⟨f0, f1⟩, f2, f3⟩ := qAn xr
 clear hb2 hB2 xr HR XR
 go_wp2_with fail
 exact bodyPost_ret (v := .tuple #[.agg #[.string kd, .int .i64 rg, .string ⟨#[]⟩, .int .i64 0], .int .i64 0]) (by simp [results, Tryz.results165, go_sem, u0, u1, u2, u3]) rfl ⟨rfl, (((HB2.out.setCell (Nat.le_refl _) _).setCell (Nat.le_refl _) _).setCell (Nat.le_refl _) _).setCell (Nat.le_refl _) _⟩
theorem qGs (gu : Nat) (v : Value) (x : Tk) (w : World) (hG : Sc.Glob w) (h : qI w v [x]) (hx : x.k = 1) (hr : 0 <= regU 1 x.t.data.toList) :
  Calls Tryz.prog 131 #[.pointer (some ⟨gu, 0, none⟩), v] w fun r w' => r = .returned (.tuple #[opV ⟨#[114]⟩ (regU 1 x.t.data.toList) ⟨#[]⟩ 0, .int .i64 0]) /\ Below w.heap.size w w' := by
 have HN := Lib.hid fun W (hb : Below w.heap.size w W) => qBN v [x] W (h.below hb (Nat.le_refl _))
 have HE := Lib.hid fun W (hb : Below w.heap.size w W) => lone_any ⟨#[114]⟩ v x W (hG.below hb hG.sz) (h.below hb (Nat.le_refl _)) hx hr
 have HR := Lib.hid fun W (hb : Below w.heap.size w W) => qCz x.n x.t W (hG.below hb hG.sz)
 have HSF : Hid (∀ s W, Calls Tryz.prog 125 #[tokV 1 x.n x.t, .string s] W fun r w' => r = .returned (.bool false) /\ Below W.heap.size W w') := fun s W => qBq 1 x.n x.t s W
 obtain ⟨ad, cap, rfl, _⟩ := h
 generalize regU 1 x.t.data.toList = rg at *
 obtain ⟨k, n, t⟩ := x
 simp only at hx
 subst hx
 clear hG
 unfold opV at *
 unfold Tk.V tokV qBQ at *
 simp only [List.length_singleton] at *
 go_enter Tryz.func131, Tryz.ntmps131
 go_wp2_with fail
 refine (HN.out _ (qE _ _)).mono ?_
 rintro e w1 ⟨⟨v', rfl, hv⟩, hb1⟩
 obtain ⟨ad', cap', rfl, _⟩ := id hv
 obtain ⟨hB1, hz1, xr⟩ := qS hb1
 simp only [List.tail_cons, List.length_nil] at *
 clear hb1 hv
 go_wp2_with fail
 refine (HSF.out _ _ ).mono ?_
 rintro e w2 ⟨rfl, hb2⟩
 obtain ⟨hB2, hz2, xt⟩ := qS hb2
 have t0 : w2.cell? ⟨w1.heap.size, 0, none⟩ = some (.int .i64 1) := qB xt rfl
 have t1 : w2.cell? ⟨w1.heap.size, 1, none⟩ = some (.int .i64 n) := qB xt rfl
 have t2 : w2.cell? ⟨w1.heap.size, 2, none⟩ = some (.string t) := qB xt rfl
 replace xr := (hB2.block _ (by omega)).trans xr
 have HB := Lib.hid (hB1.trans (hB2.mono (by omega)))
 clear hb2 hB2 hB1
 go_wp2_with fail
 refine (HSF.out _ _ ).mono ?_
 rintro e w3 ⟨rfl, hb3⟩
 replace xt := (hb3.block _ (by omega)).trans xt
 replace xr := (hb3.block _ (by omega)).trans xr
 replace t0 := (hb3.cell (by show w1.heap.size < w2.heap.size; omega)).trans t0
 replace t1 := (hb3.cell (by show w1.heap.size < w2.heap.size; omega)).trans t1
 replace t2 := (hb3.cell (by show w1.heap.size < w2.heap.size; omega)).trans t2
 replace HB := Lib.hid (HB.out.trans (hb3.mono (by omega)))
 have hz3 : w1.heap.size < w3.heap.size := Nat.lt_of_lt_of_le (by omega) hb3.size
 clear hb3
 go_wp2_with fail
 refine (HSF.out _ _ ).mono ?_
 rintro e w4 ⟨rfl, hb4⟩
 replace xt := (hb4.block _ (by omega)).trans xt
 replace xr := (hb4.block _ (by omega)).trans xr
 replace t0 := (hb4.cell (by show w1.heap.size < w3.heap.size; omega)).trans t0
 replace t1 := (hb4.cell (by show w1.heap.size < w3.heap.size; omega)).trans t1
 replace t2 := (hb4.cell (by show w1.heap.size < w3.heap.size; omega)).trans t2
 replace HB := Lib.hid (HB.out.trans (hb4.mono (by omega)))
 have hz4 : w1.heap.size < w4.heap.size := Nat.lt_of_lt_of_le (by omega) hb4.size
 clear hb4
 go_wp2_with fail
 refine (HR.out _ HB.out).mono ?_
 rintro e w5 ⟨rfl, hb5⟩
 replace xt := (hb5.block _ (by omega)).trans xt
 replace xr := (hb5.block _ (by omega)).trans xr
 replace t0 := (hb5.cell (by show w1.heap.size < w4.heap.size; omega)).trans t0
 replace t1 := (hb5.cell (by show w1.heap.size < w4.heap.size; omega)).trans t1
 replace t2 := (hb5.cell (by show w1.heap.size < w4.heap.size; omega)).trans t2
 replace HB := Lib.hid (HB.out.trans (hb5.mono (by omega)))
 have hz5 : w1.heap.size < w5.heap.size := Nat.lt_of_lt_of_le (by omega) hb5.size
 clear hb5
 have XR := Lib.hid xr
 clear xr xt t0 t1 t2
 go_wp2_with fail
 refine (HE.out _ HB.out).mono ?_
 rintro e w6 ⟨rfl, hb6⟩
 obtain ⟨⟨⟨u0, u1⟩, u2, u3⟩, ⟨f0, f1⟩, f2, f3⟩ := qAn ((hb6.block _ (by omega)).trans XR.out)
 have hz6 : w.heap.size < w6.heap.size := Nat.lt_of_lt_of_le (by omega) hb6.size
 replace HB := Lib.hid (HB.out.trans (hb6.mono (by omega)))
 clear hb6
 go_wp2_with fail
 exact bodyPost_ret (v := .tuple #[.agg #[.string ⟨#[114]⟩, .int .i64 rg, .string ⟨#[]⟩, .int .i64 0], .int .i64 0]) (by simp [results, Tryz.results131, go_sem, u0, u1, u2, u3]) rfl ⟨rfl, (((HB.out.setCell (Nat.le_refl _) _).setCell (Nat.le_refl _) _).setCell (Nat.le_refl _) _).setCell (Nat.le_refl _) _⟩
theorem qHH (gu : Nat) (v : Value) (sn : Int) (x : Tk) (nm : ByteArray) (n : Int) (hk : qIN x.k x.n x.t nm n) (w : World) (hL : Xp.qAT w) (h : qI w v [⟨3, sn, ⟨#[35]⟩⟩, x]) (c0 : w.cell? ⟨gu, 0, none⟩ = some (.slice none 0 0)) :
  Calls Tryz.prog 131 #[.pointer (some ⟨gu, 0, none⟩), v] w fun r w' => r = .returned (.tuple #[opV ⟨#[35]⟩ 0 nm n, .int .i64 0]) /\ Below w.heap.size w w' := by
 have hg : gu < w.heap.size := World.block_lt_of_cell? w _ c0
 have HN := Lib.hid fun W (hb : Below w.heap.size w W) => qBN v [⟨3, sn, ⟨#[35]⟩⟩, x] W (h.below hb (Nat.le_refl _))
 have HE0 := Lib.hid fun v' W (hb : Below w.heap.size w W) (hv : qI W v' [x]) => qIZ gu ⟨#[35]⟩ v' x nm n hk W (KL.below hL hb) hv (by rw [hb.cell (by exact hg)]; exact c0)
 have HST : Hid (∀ W, Calls Tryz.prog 125 #[tokV 3 sn ⟨#[35]⟩, .string ⟨#[35]⟩] W fun r w' => r = .returned (.bool true) /\ Below W.heap.size W w') := fun W => by
  have := qBq 3 sn ⟨#[35]⟩ ⟨#[35]⟩ W
  rwa [show ((3 : Int) == 3 && (⟨#[35]⟩ : ByteArray).toList == (⟨#[35]⟩ : ByteArray).toList) = true by simp] at this
 obtain ⟨ad, cap, rfl, _⟩ := h
 clear hL hk
 unfold opV at *
 unfold Tk.V tokV qBQ at *
 simp only [List.length_cons, List.length_nil] at *
 go_enter Tryz.func131, Tryz.ntmps131
 go_wp2_with fail
 refine (HN.out _ (qE _ _)).mono ?_
 rintro e w1 ⟨⟨v', rfl, hv⟩, hb1⟩
 obtain ⟨ad', cap', rfl, _⟩ := id hv
 obtain ⟨hB1, hz1, xr⟩ := qS hb1
 simp only [List.tail_cons, List.length_singleton] at *
 have HPV := Lib.hid hv
 have HBV := Lib.hid hb1
 clear hb1 hv
 go_wp2_with fail
 refine (HST.out _).mono ?_
 rintro e w2 ⟨rfl, hb2⟩
 obtain ⟨hB2, hz2, xt⟩ := qS hb2
 have t0 : w2.cell? ⟨w1.heap.size, 0, none⟩ = some (.int .i64 3) := qB xt rfl
 have t1 : w2.cell? ⟨w1.heap.size, 1, none⟩ = some (.int .i64 sn) := qB xt rfl
 have t2 : w2.cell? ⟨w1.heap.size, 2, none⟩ = some (.string ⟨#[35]⟩) := qB xt rfl
 replace xr := (hB2.block _ (by omega)).trans xr
 have HB := Lib.hid (hB1.trans (hB2.mono (by omega)))
 replace HBV := Lib.hid (HBV.out.trans (hB2.mono HBV.out.size))
 clear hb2 hB2 hB1
 have XR := Lib.hid xr
 clear xr xt
 go_wp2_with fail
 refine (HE0.out _ _ HB.out (HPV.out.below HBV.out (Nat.le_refl _))).mono ?_
 rintro e w6 ⟨rfl, hb6⟩
 obtain ⟨⟨⟨u0, u1⟩, u2, u3⟩, ⟨f0, f1⟩, f2, f3⟩ := qAn ((hb6.block _ (by omega)).trans XR.out)
 have hz6 : w.heap.size < w6.heap.size := Nat.lt_of_lt_of_le (by omega) hb6.size
 replace HB := Lib.hid (HB.out.trans (hb6.mono (by omega)))
 clear hb6
 go_wp2_with fail
 exact bodyPost_ret (v := .tuple #[.agg #[.string ⟨#[35]⟩, .int .i64 0, .string nm, .int .i64 n], .int .i64 0]) (by simp [results, Tryz.results131, go_sem, u0, u1, u2, u3]) rfl ⟨rfl, (((HB.out.setCell (Nat.le_refl _) _).setCell (Nat.le_refl _) _).setCell (Nat.le_refl _) _).setCell (Nat.le_refl _) _⟩
end Go.Proofs.YtgjmbjahgcndnaaGreatDoor
