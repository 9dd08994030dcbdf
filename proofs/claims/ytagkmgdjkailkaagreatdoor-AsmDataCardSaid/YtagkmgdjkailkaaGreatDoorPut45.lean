/- asm: a pool of one value laid. asm: a line read: what its parts make. asm: the bytes of an instruction that leads. -/
import Derived.Test.YtagkmgdjkailkaaGreatDoorPut43
import Derived.Test.YtagkmgdjkailkaaGreatDoorPut37
import Derived.Test.YtagkmgdjkailkaaGreatDoorUeF
import Derived.Test.YtagkmgdjkailkaaGreatDoorUeH
import Derived.Test.YtagkmgdjkailkaaGreatDoorPut40
namespace Go.Proofs.YtagkmgdjkailkaaGreatDoor
open Go.RowKit

/-- A pool changed: a unit is as it was. -/
theorem UR.pset {w : World} {B gu gp i : Nat} {e : Value} {ln : Int} {nv lm pp pv rv x : Value} {its : List It} {c : Array Value} (h : UR w B gu e ln nv lm pp pv rv its) (hp : w.heap[gp]? = some (.cells c 116 (0, 0))) : UR (w.setCell ⟨gp, i, none⟩ x) B gu e ln nv lm pp pv rv its := by
  have key : ∀ {q : Nat} {c' : Array Value} {t : TypeId}, w.heap[q]? = some (.cells c' t (0, 0)) → t ≠ 116 → (w.setCell ⟨gp, i, none⟩ x).heap[q]? = some (.cells c' t (0, 0)) := fun {q c' t} hq ht => by
    rw [Below.heap_setCell _ _ _ _ (by show q ≠ gp; rintro rfl; rw [hp] at hq; injection hq with hq; injection hq with _ e2; exact ht e2.symm)]
    exact hq
  obtain ⟨iv, l, h1, h2, h3, h4⟩ := h.its
  refine ⟨h.lt, by simpa using h.le, iv, l, key h1 (by decide), ⟨h2.1, ?_⟩, h3, fun p hp' => (h4 p hp').stays fun {q c' t} hq ht => key hq (by rintro rfl; exact absurd ht (by decide))⟩
  rcases h2.2 with h5 | ⟨g, cap, cur, h5, h6, h7, h8⟩
  · exact .inl h5
  · exact .inr ⟨g, cap, cur, h5, h6, key h7 (by decide), h8⟩
/-- Another pool is the unit's. -/
theorem UR.pp {w : World} {B gu : Nat} {e : Value} {ln : Int} {nv lm pp pv rv : Value} {its : List It} (h : UR w B gu e ln nv lm pp pv rv its) (p : Value) : UR (w.setCell ⟨gu, 5, none⟩ p) B gu e ln nv lm p pv rv its := by
  obtain ⟨iv, l, h1, h2, h3, h4⟩ := h.its
  exact ⟨h.lt, by simpa using h.le, iv, l, blk_set h1, row_set h2 h.lt, h3, fun p hp => (h4 p hp).fr h1 (fun i _ hne => Below.heap_setCell _ _ _ _ hne)⟩

set_option maxHeartbeats 8000000 in
set_option maxRecDepth 100000 in
theorem endPool_one (gu B gp mi : Nat) (e nv lm pv rv : Value) (ln f : Int) (its : List It) (nm : List UInt8) (n : Int) (va : Option Addr) (vc b0 : Nat) (w : World) (h : UR w B gu e ln nv lm (.pointer (some ⟨gp, 0, none⟩)) pv rv its) (hp : w.heap[gp]? = some (.cells #[.int .i64 f, .slice va 1 vc, .map (some mi)] 116 (0, 0))) (hr : w.ownsRow b0 134 2 (.slice va 1 vc) 1 [.string ⟨nm.toArray⟩, .int .i64 n]) (hits : its.length ≤ 90000) :
    Calls Tryz.prog 26 #[.pointer (some ⟨gu, 0, none⟩)] w fun r w' => r = .returned (.tuple #[]) ∧ (∃ gp', UR w' B gu e ln nv lm (.pointer (some ⟨gp', 0, none⟩)) pv rv (its ++ [fillI ln 4, numI ln 4 nm n])) ∧ w'.heap[gp]? = some (.cells #[.int .i64 ((its.length + 1 : Nat) : Int), .slice va 1 vc, .map (some mi)] 116 (0, 0))
      ∧ (w'.os = w.os ∧ w'.tape = w.tape ∧ w'.output = w.output ∧ ∀ i, i < B → i ≠ gu → i ≠ gp → w'.heap[i]? = w.heap[i]?) ∧ (w.heap.size ≤ w'.heap.size ∧ ∀ (q : Nat) (o : Obj), w.heap[q]? = some o → (∀ c f, o ≠ .cells c 79 f) → (∀ c f, o ≠ .cells c 131 f) → q ≠ gp → w'.heap[q]? = some o) := by
  obtain ⟨iv, il, u1, u2, u3, u4⟩ := id h.its
  have c5 : w.cell? ⟨gu, 5, none⟩ = some (.pointer (some ⟨gp, 0, none⟩)) := blk_cell u1 rfl
  have hg := blk_lt u1
  have p1 : w.cell? ⟨gp, 1, none⟩ = some (.slice va 1 vc) := blk_cell hp rfl
  have zp := blk_lt hp
  have HNO := Lib.hid fun W => noughts_any 4 W
  have HU := Lib.hid h
  have HP := Lib.hid hp
  have HR := Lib.hid hr
  have HGU : Hid (∃ c, w.heap[gu]? = some (.cells c 79 (0, 0))) := ⟨_, u1⟩
  unfold itV at HNO
  clear h hp hr u1 u2 u3 u4
  go_enter Tryz.func26, Tryz.ntmps26
  go_wp2_with fail
  refine (HNO.out _).mono ?_
  rintro e1 w1 ⟨rfl, hb1⟩
  have HAD := Lib.hid (uadd_more gu B _ nv lm _ pv rv .nilFunc (.func (.func 90) #[] #[]) ln 0 (fillI ln 4) its w1 (HU.out.go hb1) rfl ⟨rfl, rfl⟩ (by omega))
  unfold itV at HAD
  simp only [fillI] at HAD
  have HB1 := Lib.hid hb1
  clear hb1 HNO
  go_wp2_with fail
  refine HAD.out.mono ?_
  rintro e2 w2 ⟨rfl, hu2, hf2, hk2⟩
  have hle := HU.out.le
  have HO2 : Hid (w2.os = w.os ∧ w2.tape = w.tape ∧ w2.output = w.output ∧ ∀ i, i < B → i ≠ gu → w2.heap[i]? = w.heap[i]?) := ⟨hf2.os.trans HB1.out.os, hf2.tape.trans HB1.out.tape, hf2.output.trans HB1.out.output, fun i hi n1 => by rw [hf2.block i hi n1]; exact HB1.out.block i (by omega)⟩
  clear hf2
  have hp2 := hk2.2 _ _ ((HB1.out.block _ zp).trans HP.out) (by intro c f e; cases e) (by intro c f e; cases e)
  have hkr : ∀ {q : Nat} {o : Obj}, w.heap[q]? = some o → (∀ c f, o ≠ .cells c 79 f) → (∀ c f, o ≠ .cells c 131 f) → w2.heap[q]? = some o := fun {q o} hq h1 h2 => hk2.2 q o ((HB1.out.block _ (blk_lt hq)).trans hq) h1 h2
  obtain ⟨iv2, il2, v1, v2, v3, v4⟩ := id hu2.its
  obtain ⟨ia, ic, hiv⟩ := row_shape v2
  subst hiv
  have d4 : w2.cell? ⟨gu, 4, none⟩ = some (.slice ia (its ++ [(⟨ln, 0, 4, 1, .fill⟩ : It)]).length ic) := blk_cell v1 rfl
  rw [List.length_append, List.length_singleton] at d4
  have d0 : w2.cell? ⟨gp, 0, none⟩ = some (.int .i64 f) := blk_cell hp2 rfl
  have d1 : w2.cell? ⟨gp, 1, none⟩ = some (.slice va 1 vc) := blk_cell hp2 rfl
  have f0 : w2.frozen? ⟨gp, 0, none⟩ = false := blk_froz hp2
  have zg := blk_lt v1
  have zp2 := blk_lt hp2
  have hne : gu ≠ gp := by rintro rfl; rw [v1] at hp2; injection hp2 with hp2; injection hp2 with _ e2; exact absurd e2 (by decide)
  have HU2 := Lib.hid hu2
  have HP2 := Lib.hid hp2
  have HK2 : Hid (w.heap.size ≤ w2.heap.size) := Nat.le_trans HB1.out.size hk2.1
  have HKR : Hid (∀ (q : Nat) (o : Obj), w.heap[q]? = some o → (∀ c f, o ≠ .cells c 79 f) → (∀ c f, o ≠ .cells c 131 f) → w2.heap[q]? = some o) := fun q o hq h1 h2 => hkr hq h1 h2
  clear hu2 hk2 hp2 hkr v1 v2 v3 v4 HAD
  go_wp2_with fail
  obtain ⟨V, hV⟩ : ∃ X, X = w2.setCell ⟨gp, 0, none⟩ (.int .i64 ((its.length : Int) + 1)) := ⟨_, rfl⟩
  have hUV : UR V B gu e ln nv lm (.pointer (some ⟨gp, 0, none⟩)) pv rv (its ++ [(⟨ln, 0, 4, 1, .fill⟩ : It)]) := by rw [hV]; exact HU2.out.pset HP2.out
  have hpV : V.heap[gp]? = some (.cells #[.int .i64 ((its.length + 1 : Nat) : Int), .slice va 1 vc, .map (some mi)] 116 (0, 0)) := by rw [hV]; exact blk_set HP2.out
  have hkV : ∀ (q : Nat) (o : Obj), w.heap[q]? = some o → (∀ c f, o ≠ .cells c 79 f) → (∀ c f, o ≠ .cells c 131 f) → q ≠ gp → V.heap[q]? = some o := fun q o hq h1 h2 h3 => by rw [hV, Below.heap_setCell _ _ _ _ h3]; exact HKR.out q o hq h1 h2
  obtain ⟨gr, hva, r0, r1, zr⟩ : ∃ g, va = some ⟨g, 0, none⟩ ∧ V.cell? ⟨g, 0, none⟩ = some (.string ⟨nm.toArray⟩) ∧ V.cell? ⟨g, 1, none⟩ = some (.int .i64 n) ∧ g < V.heap.size := by
    rcases id HR.out.2 with ⟨hv, h0⟩ | ⟨g, cap, cur, hv, hg0, hgg, _⟩
    · omega
    · injection hv with e1 _ _
      have hgp : g ≠ gp := by rintro rfl; rw [HP.out] at hgg; injection hgg with hgg; injection hgg with _ e2; exact absurd e2 (by decide)
      have hgV := hkV _ _ hgg (by intro c f e; cases e) (by intro c f e; cases e) hgp
      have q0 := HR.out.cells (g := g) (by rw [e1]; rfl) 0 _ rfl
      have q1 := HR.out.cells (g := g) (by rw [e1]; rfl) 1 _ rfl
      have hadd : ∀ j, (⟨g, 0, none⟩ : Addr).add j = ⟨g, 0 + j, none⟩ := fun j => by unfold Addr.add; split <;> simp_all
      have hcc : ∀ i, V.cell? ⟨g, i, none⟩ = w.cell? ⟨g, i, none⟩ := fun i => by simp only [World.cell?, hgV, hgg]
      rw [hadd, Nat.zero_add, ← hcc] at q0 q1
      exact ⟨g, e1, q0, q1, blk_lt hgV⟩
  subst hva
  have hsz : w.heap.size ≤ V.heap.size := by rw [hV]; simpa using HK2.out
  have HOV : Hid (V.os = w.os ∧ V.tape = w.tape ∧ V.output = w.output ∧ ∀ i, i < B → i ≠ gu → i ≠ gp → V.heap[i]? = w.heap[i]?) := by
    have hS := gset w2 gp 0 (.int .i64 ((its.length : Int) + 1))
    rw [← hV] at hS
    refine ⟨hS.os.trans HO2.out.1, hS.tape.trans HO2.out.2.1, hS.output.trans HO2.out.2.2.1, fun i hi n1 n2 => ?_⟩
    rw [hV, Below.heap_setCell _ _ _ _ n2]
    exact HO2.out.2.2.2 i hi n1
  have v5 : V.cell? ⟨gu, 5, none⟩ = some (.pointer (some ⟨gp, 0, none⟩)) := by obtain ⟨_, _, x1, _⟩ := hUV.its; exact blk_cell x1 rfl
  have zgV : gu < V.heap.size := by obtain ⟨_, _, x1, _⟩ := hUV.its; exact blk_lt x1
  rw [← hV]
  have HUV := Lib.hid hUV
  have HPV := Lib.hid hpV
  have HKV := Lib.hid hkV
  have HNU := Lib.hid fun W => numberI_any ⟨gu, 0, none⟩ 4 ⟨nm.toArray⟩ n W
  unfold itV at HNU
  clear hV hUV hpV hkV HU2 HP2 HKR HK2 d0 d1 d4 f0 HR HU HB1 HP c5 p1
  refine wp_loop_rounds 2 ?_
  rw [rounds_succ]
  go_wp2_with fail
  refine (HNU.out _).mono ?_
  rintro e3 w3 ⟨⟨gb, gs, gv, rfl, _, x1, x2, x3⟩, hb3⟩
  have hB3 : Below V.heap.size V w3 := (oalloc _ _).trans (hb3.mono (by simp))
  have HAD := Lib.hid (uadd_more gu B _ nv lm _ pv rv .nilFunc (.func (.func 91) #[] #[.pointer (some ⟨gv, 0, none⟩), .pointer (some ⟨gs, 0, none⟩), .pointer (some ⟨gb, 0, none⟩)]) ln 0 (numI ln 4 nm n) _ w3 (HUV.out.go hB3) rfl (GenR.num x1 x2 x3) (by simp; omega))
  unfold itV at HAD
  simp only [numI] at HAD
  have HB3 := Lib.hid hB3
  clear hb3 hB3 x1 x2 x3 HNU
  go_wp2_with fail
  refine HAD.out.mono ?_
  rintro e4 w4 ⟨rfl, hu4, hf4, hk4⟩
  have HO4 : Hid (w4.os = w.os ∧ w4.tape = w.tape ∧ w4.output = w.output ∧ ∀ i, i < B → i ≠ gu → i ≠ gp → w4.heap[i]? = w.heap[i]?) := ⟨hf4.os.trans (HB3.out.os.trans HOV.out.1), hf4.tape.trans (HB3.out.tape.trans HOV.out.2.1), hf4.output.trans (HB3.out.output.trans HOV.out.2.2.1), fun i hi n1 n2 => by rw [hf4.block i hi n1, HB3.out.block i (by omega)]; exact HOV.out.2.2.2 i hi n1 n2⟩
  clear hf4
  have HU4 := Lib.hid hu4
  have hp4 := hk4.2 _ _ ((HB3.out.block _ (blk_lt HPV.out)).trans HPV.out) (by intro c f e; cases e) (by intro c f e; cases e)
  have HP4 := Lib.hid hp4
  have HK4 : Hid (∀ (q : Nat) (o : Obj), w.heap[q]? = some o → (∀ c f, o ≠ .cells c 79 f) → (∀ c f, o ≠ .cells c 131 f) → q ≠ gp → w4.heap[q]? = some o) := fun q o hq h1 h2 h3 => hk4.2 q o ((HB3.out.block _ (blk_lt (HKV.out q o hq h1 h2 h3))).trans (HKV.out q o hq h1 h2 h3)) h1 h2
  have hsz4 : w.heap.size ≤ w4.heap.size := Nat.le_trans hsz (Nat.le_trans HB3.out.size hk4.1)
  have HNP := Lib.hid (newPool_any w4)
  clear hu4 hk4 hp4 HAD HUV HPV HKV HB3 v5 r0 r1
  go_wp2_with fail
  rw [rounds_succ]
  go_wp2_with fail
  refine HNP.out.mono ?_
  rintro e5 w5 ⟨⟨gq, mq, rfl, _, _⟩, hb5⟩
  have hU5 := HU4.out.go hb5
  have HO5 : Hid (w5.os = w.os ∧ w5.tape = w.tape ∧ w5.output = w.output ∧ ∀ i, i < B → i ≠ gu → i ≠ gp → w5.heap[i]? = w.heap[i]?) := ⟨hb5.os.trans HO4.out.1, hb5.tape.trans HO4.out.2.1, hb5.output.trans HO4.out.2.2.1, fun i hi n1 n2 => by rw [hb5.block i (by omega)]; exact HO4.out.2.2.2 i hi n1 n2⟩
  have y5 : w5.cell? ⟨gu, 5, none⟩ = some (.pointer (some ⟨gp, 0, none⟩)) := by obtain ⟨_, _, x1, _⟩ := hU5.its; exact blk_cell x1 rfl
  have yf : w5.frozen? ⟨gu, 5, none⟩ = false := by obtain ⟨_, _, x1, _⟩ := hU5.its; exact blk_froz x1
  have zy : gu < w5.heap.size := by obtain ⟨_, _, x1, _⟩ := hU5.its; exact blk_lt x1
  have HU5 := Lib.hid hU5
  have HP5 := Lib.hid ((hb5.block _ (blk_lt HP4.out)).trans HP4.out)
  have HK5 : Hid (∀ (q : Nat) (o : Obj), w.heap[q]? = some o → (∀ c f, o ≠ .cells c 79 f) → (∀ c f, o ≠ .cells c 131 f) → q ≠ gp → w5.heap[q]? = some o) := fun q o hq h1 h2 h3 => (hb5.block _ (blk_lt (HK4.out q o hq h1 h2 h3))).trans (HK4.out q o hq h1 h2 h3)
  have hsz5 : w.heap.size ≤ w5.heap.size := Nat.le_trans hsz4 hb5.size
  have HUB : Hid (∃ c, w.heap[gu]? = some (.cells c 79 (0, 0))) := HGU
  clear hU5 hb5 HU4 HP4 HK4 HNP
  go_wp2_with fail
  refine bodyPost_end (v := .tuple #[]) (by simp [results, Tryz.results26, go_sem]) rfl ⟨rfl, ⟨gq, ?_⟩, ?_, ?_, by simpa using hsz5, fun q o hq h1 h2 h3 => ?_⟩
  · have := HU5.out.pp (.pointer (some ⟨gq, 0, none⟩))
    simpa [fillI, numI] using this
  · rw [Below.heap_setCell _ _ _ _ (by show gp ≠ gu; exact Ne.symm hne)]; exact HP5.out
  · have hS := gset w5 gu 5 (.pointer (some ⟨gq, 0, none⟩))
    exact ⟨hS.os.trans HO5.out.1, hS.tape.trans HO5.out.2.1, hS.output.trans HO5.out.2.2.1, fun i hi n1 n2 => by rw [Below.heap_setCell _ _ _ _ n1]; exact HO5.out.2.2.2 i hi n1 n2⟩
  · rw [Below.heap_setCell _ _ _ _ (by show q ≠ gu; rintro rfl; obtain ⟨c, hc⟩ := HUB.out; rw [hc] at hq; injection hq with hq; exact h1 _ _ hq.symm)]
    exact HK5.out q o hq h1 h2 h3

end Go.Proofs.YtagkmgdjkailkaaGreatDoor

namespace Go.Proofs.YtagkmgdjkailkaaGreatDoor
open Go.RowKit

/-- Words that are no instructions. -/
def dirs : List (List UInt8) := [[46, 98, 121, 116, 101], [46, 119, 111, 114, 100], [46, 108, 111, 110, 103], [46, 97, 108, 105, 103, 110], [46, 112, 111, 111, 108]]

set_option maxHeartbeats 2000000 in
theorem statement_of (gu : Nat) (name : ByteArray) (oa : Option Addr) (on oc : Nat) (w : World) (Q : World → Prop) (hn : name.toList ∉ dirs) (h : Calls Tryz.prog 89 #[.pointer (some ⟨gu, 0, none⟩), .string name, .slice oa on oc] w fun r w' => r = .returned (.int .i64 0) ∧ Q w') :
    Calls Tryz.prog 46 #[.pointer (some ⟨gu, 0, none⟩), .string name, .slice oa on oc] w fun r w' => r = .returned (.int .i64 0) ∧ Q w' := by
  have H := Lib.hid h
  simp only [dirs, List.mem_cons, List.not_mem_nil, or_false, not_or] at hn
  obtain ⟨n1, n2, n3, n4, n5⟩ := hn
  replace n1 := beq_eq_false_iff_ne.2 n1
  replace n2 := beq_eq_false_iff_ne.2 n2
  replace n3 := beq_eq_false_iff_ne.2 n3
  replace n4 := beq_eq_false_iff_ne.2 n4
  replace n5 := beq_eq_false_iff_ne.2 n5
  clear h
  go_enter Tryz.func46, Tryz.ntmps46
  go_wp2_with (first | (go_at_call 89; refine H.out.mono ?_; rintro e w1 ⟨rfl, hq⟩) | fail)
  go_ret
  exact ⟨rfl, hq⟩

set_option maxHeartbeats 4000000 in
/-- A line: what stands behind its labels is a word and operands. -/
theorem read_gen (gu : Nat) (v : Value) (hn : Int) (ht : ByteArray) (rest : List Tk) (ops : List Opd) (w0 w : World) (PL Q : World → Prop)
    (hlab : Calls Tryz.prog 42 #[.pointer (some ⟨gu, 0, none⟩), v] w fun r w1 => ∃ v', r = .returned (.tuple #[v', .int .i64 0]) ∧ PReads w0 v' (⟨1, hn, ht⟩ :: rest) ∧ PL w1)
    (hst : ∀ W W', PL W → Below W.heap.size W W' → PL W') (hB : ∀ W, PL W → Below w0.heap.size w0 W)
    (hop : ∀ W v2, PL W → PReads w0 v2 rest → Calls Tryz.prog 45 #[.pointer (some ⟨gu, 0, none⟩), v2] W fun r w' => (∃ oa oc, r = .returned (.tuple #[.slice oa ops.length oc, .int .i64 0]) ∧ OpsR w' oa ops) ∧ Below W.heap.size W w')
    (hs : ∀ W oa oc, PL W → OpsR W oa ops → Calls Tryz.prog 46 #[.pointer (some ⟨gu, 0, none⟩), .string ht, .slice oa ops.length oc] W fun r w' => r = .returned (.int .i64 0) ∧ Q w') (hv : ∃ ad l c, v = .slice ad l c) :
    Calls Tryz.prog 25 #[.pointer (some ⟨gu, 0, none⟩), v] w fun r w' => r = .returned (.int .i64 0) ∧ Q w' := by
  have HLB := Lib.hid hlab
  have HN := Lib.hid fun v' W (hp : PL W) (hv : PReads w0 v' (⟨1, hn, ht⟩ :: rest)) => next_at v' _ w0 W hv (hB W hp)
  have HAW := Lib.hid fun W => aword_any 1 hn ht W
  have HOP := Lib.hid hop
  have HST := Lib.hid hs
  have HGO := Lib.hid hst
  obtain ⟨ad, vl, vc, rfl⟩ := hv
  clear hlab hop hs hst hB
  unfold Tk.V tokV headT at *
  simp only [List.tail_cons] at *
  go_enter Tryz.func25, Tryz.ntmps25
  go_wp2_with fail
  refine HLB.out.mono ?_
  rintro e w1 ⟨v1, rfl, hv1, hp1⟩
  obtain ⟨ad1, cap1, hv1s, _⟩ := id hv1
  simp only [List.length_cons] at hv1s
  subst hv1s
  have HV1 := Lib.hid hv1
  have HP1 := Lib.hid hp1
  clear hv1 hp1 HLB
  go_wp2_with fail
  refine (HN.out _ _ HP1.out HV1.out).mono ?_
  rintro e w2 ⟨⟨v2, rfl, hv2⟩, hb2⟩
  obtain ⟨ad2, cap2, hv2s, _⟩ := id hv2
  subst hv2s
  have HV2 := Lib.hid hv2
  have HP2 := Lib.hid (HGO.out _ _ HP1.out hb2)
  clear hv2 hb2 HN HP1
  go_wp2_with fail
  refine (HAW.out _).mono ?_
  rintro e w3 ⟨rfl, hb3⟩
  obtain ⟨hB3, hz3, xr⟩ := box_keep hb3
  have HP3 := Lib.hid (HGO.out _ _ HP2.out hB3)
  have XR := Lib.hid xr
  clear hb3 hB3 xr HP2
  go_wp2_with fail
  refine (HOP.out _ _ HP3.out HV2.out).mono ?_
  rintro e w4 ⟨⟨oa, oc, rfl, ho4⟩, hb4⟩
  have xr4 := (hb4.block _ hz3).trans XR.out
  have t2 : w4.cell? ⟨w2.heap.size, 2, none⟩ = some (.string ht) := blk_cell xr4 rfl
  have hz4 := blk_lt xr4
  have HC := Lib.hid (HST.out w4 oa oc (HGO.out _ _ HP3.out hb4) ho4)
  clear ho4 hb4 xr4 XR HST HOP HAW HP3 HV1 HV2
  go_wp2_with (first | (go_at_call 46; refine HC.out.mono ?_; rintro e w5 ⟨rfl, hq⟩) | fail)
  go_ret
  exact ⟨rfl, hq⟩

end Go.Proofs.YtagkmgdjkailkaaGreatDoor

namespace Go.Proofs.YtagkmgdjkailkaaGreatDoor
open Go.RowKit

/-- A function without arguments that tells a place. -/
def Tells (W : World) (tv : Value) (p : Int) : Prop := ∃ f caps, tv = .func (.func f) #[] caps ∧ (∀ args w, (callFunc f args).run Tryz.prog w = .ok (.enter f args) w) ∧ ∀ W', Below W.heap.size W W' → Calls Tryz.prog f caps W' fun r w' => r = .returned (.tuple #[.int .i64 p, .int .i64 0]) ∧ Below W'.heap.size W' w'

theorem lead1_any (gt gi : Nat) (k : In) (tv : Value) (p s q d : Int) (b : List UInt8) (w : World) (hL : Isa.Laid w) (hgt : w.heap[gt]? = some (.cells #[tv] 210 (0, 0))) (hgi : w.heap[gi]? = some (.cells k.C 37 (0, 0))) (hT : Tells w tv q) (h0 : 0 ≤ p) (h1 : p ≤ 1000000) (h2 : -1000000000000 ≤ q) (h3 : q ≤ 1000000000000) (h6 : s ≠ 6) (hd : ledU k.op p q = .ok d) (hok : encU k.op k.n k.m d = .ok b) :
    Calls Tryz.prog 157 #[.int .i64 p, .int .i64 s, .pointer (some ⟨gt, 0, none⟩), .pointer (some ⟨gi, 0, none⟩)] w fun r w' => (∃ ca cl cc, r = .returned (.tuple #[.slice ca cl cc, .int .i64 0]) ∧ OBytes w' (.slice ca cl cc) b) ∧ Below w.heap.size w w' := by
  obtain ⟨f, caps, rfl, hent, hto⟩ := hT
  have HTO := Lib.hid hto
  have HLE := Lib.hid fun W (hb : Below w.heap.size w W) => led_any k.op k.n k.m k.imm p q d W (hL.below hb hL.sz) h0 h1 h2 h3 hd
  have HE := Lib.hid fun W (hb : Below w.heap.size w W) g (hq : W.heap[g]? = some (.cells (In.mk k.op k.n k.m d).C 37 (0, 0))) => encoded_one ⟨k.op, k.n, k.m, d⟩ g b W (hL.below hb hL.sz) hq hok
  obtain ⟨op, n, m, imm⟩ := k
  have ct : w.cell? ⟨gt, 0, none⟩ = some (.func (.func f) #[] caps) := blk_cell hgt rfl
  have c0 : w.cell? ⟨gi, 0, none⟩ = some (.int .i64 op) := blk_cell hgi rfl
  have c1 : w.cell? ⟨gi, 1, none⟩ = some (.int .i64 n) := blk_cell hgi rfl
  have c2 : w.cell? ⟨gi, 2, none⟩ = some (.int .i64 m) := blk_cell hgi rfl
  have c3 : w.cell? ⟨gi, 3, none⟩ = some (.int .i64 imm) := blk_cell hgi rfl
  have z1 := blk_lt hgt
  have z2 := blk_lt hgi
  have h6' : (s == 6) = false := beq_eq_false_iff_ne.2 h6
  clear hL hgt hgi hok hd hto
  go_enter Tryz.func157, Tryz.ntmps157
  go_wp2_with fail
  refine (HTO.out _ (Below.refl _ _)).mono ?_
  rintro e w1 ⟨rfl, hb1⟩
  rw [← hb1.cell (by exact z2)] at c0 c1 c2 c3
  have z3 : gi < w1.heap.size := Nat.lt_of_lt_of_le z2 hb1.size
  have HB1 := Lib.hid hb1
  clear hb1 HTO ct
  go_wp2_with fail
  refine (HLE.out _ HB1.out).mono ?_
  rintro e w2 ⟨rfl, hb2⟩
  have HB2 := Lib.hid (HB1.out.trans (hb2.mono HB1.out.size))
  clear hb2 HLE HB1 c0 c1 c2 c3
  go_wp2_with fail
  have hz2 := HB2.out.size
  refine (HE.out _ ((HB2.out.alloc hz2 _).alloc (by simp; omega) _) _ (new_at _ _ (by simp))).mono ?_
  rintro e w3 ⟨⟨ca, cl, cc, rfl, hob⟩, hb3⟩
  have HOB := Lib.hid hob
  have HB3 : Hid (Below w.heap.size w w3) := ((HB2.out.alloc hz2 _).alloc (by simp; omega) _).trans (hb3.mono (by simp; omega))
  clear hob hb3 HE
  go_wp2
  go_ret2
  exact ⟨⟨ca, cl, cc, rfl, HOB.out⟩, HB3.out⟩


theorem ent_ask (args : Array Value) (w : World) : (callFunc 164 args).run Tryz.prog w = .ok (.enter 164 args) w := by kernel_rfl
theorem ent_instr (args : Array Value) (w : World) : (callFunc 132 args).run Tryz.prog w = .ok (.enter 132 args) w := by kernel_rfl

/-- What a goal asks of a unit: a label that is there, with a number that is not too great; a pool that stands. -/
def GoalOk (x : SU) (w : World) : Goal → Prop
  | .val nm add => nm.length ≤ maxLen ∧ -100000000000 ≤ add ∧ add ≤ 100000000000
  | .slot g i => x.firsts g + i ≤ x.n ∧ ∃ vv mv, w.heap[g]? = some (.cells #[.int .i64 (x.firsts g), vv, mv] 116 (0, 0))

/-- Where it leads is told. -/
theorem goal_any (x : SU) (rv tv : Value) (q : Goal) (its : List It) (p : Int) (w : World) (hs : S0 x w) (hu : w.heap[x.gu]? = some (.cells (x.C rv) 79 (0, 0))) (hg : GoalR w x.gu tv q) (hok : GoalOk x w q) (hp : goalU ⟨x.labs, its, x.firsts⟩ x.ps q = .ok p) : Tells w tv p := by
  have hu' : ∃ c, w.heap[x.gu]? = some (.cells c 79 (0, 0)) := ⟨_, hu⟩
  cases q with
  | val nm add =>
    obtain ⟨gb, gl, b, len, c, cur, rfl, k1, k2, k3, ⟨kd, r, k4, k5⟩, k6, k7⟩ := hg
    obtain ⟨o1, o2, o3⟩ := hok
    unfold goalU placeU at hp
    simp only at hp
    have hn : nm ≠ [] := by
      intro e
      rw [if_pos e] at hp
      exact absurd hp (by simp)
    rw [if_neg hn] at hp
    cases hl : labelAt nm x.labs with
    | none => rw [hl] at hp; exact absurd hp (by simp)
    | some k =>
      rw [hl] at hp
      simp only at hp
      injection hp with hp
      subst hp
      refine ⟨_, _, rfl, ent_instr, fun W hb => ?_⟩
      exact instr1_any x rv gb gl b len c k cur kd r add nm W (hs.go (Fr.below hb) hu') (by rw [hb.block _ (blk_lt hu)]; exact hu) (by rw [hb.block _ (blk_lt k1)]; exact k1) (by rw [hb.block _ (blk_lt k2)]; exact k2) (by rw [hb.block _ (blk_lt k3)]; exact k3) k4 k5 k6 k7 hn o1 hl (by omega) (by omega)
  | slot g i =>
    obtain ⟨gb, gq, gi, rfl, k1, k2, k3⟩ := hg
    obtain ⟨o1, vv, mv, o2⟩ := hok
    unfold goalU at hp
    simp only at hp
    injection hp with hp
    subst hp
    refine ⟨_, _, rfl, ent_ask, fun W hb => ?_⟩
    exact ask1_any x rv gb gq gi g i vv mv W (hs.go (Fr.below hb) hu') (by rw [hb.block _ (blk_lt hu)]; exact hu) (by rw [hb.block _ (blk_lt k1)]; exact k1) (by rw [hb.block _ (blk_lt k2)]; exact k2) (by rw [hb.block _ (blk_lt k3)]; exact k3) (by rw [hb.block _ (blk_lt o2)]; exact o2) o1

end Go.Proofs.YtagkmgdjkailkaaGreatDoor
