/- The document's own Plain, of any instruction. The document's own Step: its parts. -/
import Derived.Test.YtabepbaldadmgaaDoorSmE
import Derived.Test.YtabepbaldadmgaaDoorSmG
namespace Go.Proofs.YtabepbaldadmgaaDoor
open Go.RowKit Isa

/-- The numbers that are told lie there. -/
def TRd (w : World) (ta : Option Addr) (l : List Int) : Prop := 0 < l.length → ∃ b off, ta = some ⟨b, off, none⟩ ∧ b < w.heap.size ∧ ∀ i, i < l.length → w.cell? ⟨b, off + i, none⟩ = some (.int .i64 (l.getD i 0))
theorem TRd.next {w w' : World} {ta : Option Addr} {l : List Int} (h : TRd w ta l) (hb : Below w.heap.size w w') : TRd w' ta l := fun h0 => by
  obtain ⟨b, off, e, hl, hc⟩ := h h0
  exact ⟨b, off, e, Nat.lt_of_lt_of_le hl hb.size, fun i hi => (hb.cell (p := ⟨b, off + i, none⟩) hl).trans (hc i hi)⟩

/-- What a plain instruction reads or writes in the image: where, and how much. -/
def memAt (m : Ma) (op n mm imm at' : Int) : Int := if op = 25 then a32 m n else if op = 26 then a32 m mm else toI op imm at'
def memSz (op : Int) : Int := if op = 23 then 2 else 4
def plainE (m : Ma) (op n mm imm at' : Int) : Int := if 23 ≤ op ∧ op ≤ 26 ∧ hasB m (memAt m op n mm imm at') (memSz op) = false then 3 else 0
def plainM (m : Ma) (op n mm imm at' : Int) : Ma :=
  if op = 1 then m
  else if op = 3 then setR m n.toNat imm
  else if op = 4 then setR m n.toNat (wrap32 (a32 m n + imm))
  else if op = 5 then setR m n.toNat (a32 m mm)
  else if op = 6 then setR m n.toNat (wrap32 (a32 m n + a32 m mm))
  else if op = 7 then setR m n.toNat (wrap32 (a32 m n - a32 m mm))
  else if op = 8 then setR m n.toNat (bits .and .i32 (a32 m n) (a32 m mm))
  else if op = 9 then setR m n.toNat (bits .or .i32 (a32 m n) (a32 m mm))
  else if op = 10 then setR m n.toNat (bits .xor .i32 (a32 m n) (a32 m mm))
  else if op = 11 then { m with t := (bits .and .i32 (a32 m n) (a32 m mm) == 0) }
  else if op = 12 then { m with t := (a32 m n == a32 m mm) }
  else if op = 13 then { m with t := decide (a32 m mm < a32 m n) }
  else if op = 14 then setR { m with t := decide (a32 m n < 0) } n.toNat (wrap32 (2 * a32 m n))
  else if op = 15 then setR { m with t := ((a32 m n).tmod 2 != 0) } n.toNat (a32 m n % 4294967296 / 2)
  else if op = 16 then { setR m n.toNat (wrap32 (a32 m n - 1)) with t := (wrap32 (a32 m n - 1) == 0) }
  else if op = 27 then { m with told := m.told ++ [m.r 0] }
  else if hasB m (memAt m op n mm imm at') (memSz op) = false then m
  else if op = 25 then { m with by' := putS m (a32 m n) (a32 m mm) }
  else setR m n.toNat (loadS m (memAt m op n mm imm at') (memSz op))

/-- What is known of a machine that a step begins with. -/
structure MOk (m : Ma) : Prop where
  b0 : 0 ≤ m.base
  b1 : m.base ≤ 1048576
  bl : m.by'.length ≤ 140737488351232
  tl : m.told.length ≤ 1000000000
/-- What Plain answers. -/
def PlPost (w : World) (m : Ma) (ba ta : Option Addr) (s0 : Option Addr) (s1 s2 : Nat) (M : Ma) (E : Int) (e : Ending) (w' : World) : Prop :=
  ∃ ba' bc' ta' tc', e = .returned (.tuple #[.agg (mC M ba' bc' (.slice s0 s1 s2) ta' tc'), .int .i64 E]) ∧ Below w.heap.size w w' ∧ BRd w' ba' M.by' ∧ TRd w' ta' M.told ∧ ((ba' = ba ∧ M.by' = m.by') ∨ ∃ g, ba' = some ⟨g, 0, none⟩ ∧ w.heap.size ≤ g) ∧ ((ta' = ta ∧ M.told = m.told) ∨ ∃ g, ta' = some ⟨g, 0, none⟩ ∧ w.heap.size ≤ g)
/-- The instruction that tells: owed. -/
def TrapOk : Prop := ∀ (m : Ma) (ba : Option Addr) (bc : Nat) (s0 : Option Addr) (s1 s2 : Nat) (ta : Option Addr) (tc : Nat) (n mm imm at' : Int) (w : World), 0 ≤ n → n ≤ 15 → 0 ≤ mm → mm ≤ 15 → MOk m → BRd w ba m.by' → TRd w ta m.told →
  Calls Tryd.prog 25 #[.agg (mC m ba bc (.slice s0 s1 s2) ta tc), .agg #[.int .i64 27, .int .i64 n, .int .i64 mm, .int .i64 imm], .int .i64 at'] w (PlPost w m ba ta s0 s1 s2 { m with told := m.told ++ [m.r 0] } 0)

theorem same_post {w : World} {s0 : Option Addr} {s1 s2 : Nat} {m M : Ma} {E : Int} {ba : Option Addr} {bc : Nat} {ta : Option Addr} {tc : Nat} (h1 : M.by' = m.by') (h2 : M.told = m.told) (hR : BRd w ba m.by') (hT : TRd w ta m.told) {f : Nat} {args : Array Value}
    (h : Calls Tryd.prog f args w fun e w' => e = .returned (.tuple #[.agg (mC M ba bc (.slice s0 s1 s2) ta tc), .int .i64 E]) ∧ Below w.heap.size w w') : Calls Tryd.prog f args w (PlPost w m ba ta s0 s1 s2 M E) :=
  h.mono fun _ _ ⟨he, hb⟩ => ⟨ba, bc, ta, tc, he, hb, by rw [h1]; exact hR.next hb, by rw [h2]; exact hT.next hb, Or.inl ⟨rfl, h1⟩, Or.inl ⟨rfl, h2⟩⟩

theorem plain_any (hTr : TrapOk) (m : Ma) (ba : Option Addr) (bc : Nat) (s0 : Option Addr) (s1 s2 : Nat) (ta : Option Addr) (tc : Nat) (op n mm imm at' : Int) (w : World) (hn0 : 0 ≤ n) (hn1 : n ≤ 15) (hm0 : 0 ≤ mm) (hm1 : mm ≤ 15) (hi0 : -10000 ≤ imm) (hi1 : imm ≤ 10000) (ha0 : 0 ≤ at') (ha1 : at' ≤ 1000000000000) (hM : MOk m) (hR : BRd w ba m.by') (hT : TRd w ta m.told)
    (ho : op = 1 ∨ (3 ≤ op ∧ op ≤ 16) ∨ (23 ≤ op ∧ op ≤ 27)) :
    Calls Tryd.prog 25 #[.agg (mC m ba bc (.slice s0 s1 s2) ta tc), .agg #[.int .i64 op, .int .i64 n, .int .i64 mm, .int .i64 imm], .int .i64 at'] w (PlPost w m ba ta s0 s1 s2 (plainM m op n mm imm at') (plainE m op n mm imm at')) := by
  have hb0 := hM.b0
  have hb1 := hM.b1
  have hbl := hM.bl
  obtain rfl | rfl | rfl | rfl | rfl | rfl | rfl | rfl | rfl | rfl | rfl | rfl | rfl | rfl | rfl | rfl | rfl | rfl | rfl | rfl : op = 1 ∨ op = 3 ∨ op = 4 ∨ op = 5 ∨ op = 6 ∨ op = 7 ∨ op = 8 ∨ op = 9 ∨ op = 10 ∨ op = 11 ∨ op = 12 ∨ op = 13 ∨ op = 14 ∨ op = 15 ∨ op = 16 ∨ op = 23 ∨ op = 24 ∨ op = 25 ∨ op = 26 ∨ op = 27 := by omega
  · exact same_post (M := plainM m 1 n mm imm at') rfl rfl hR hT (plain1 m ba bc s0 s1 s2 ta tc n mm imm at' w hn0 hn1 hm0 hm1 hi0 hi1)
  · exact same_post (M := plainM m 3 n mm imm at') rfl rfl hR hT (plain3 m ba bc s0 s1 s2 ta tc n mm imm at' w hn0 hn1 hm0 hm1 hi0 hi1)
  · exact same_post (M := plainM m 4 n mm imm at') rfl rfl hR hT (plain4 m ba bc s0 s1 s2 ta tc n mm imm at' w hn0 hn1 hm0 hm1 hi0 hi1)
  · exact same_post (M := plainM m 5 n mm imm at') rfl rfl hR hT (plain5 m ba bc s0 s1 s2 ta tc n mm imm at' w hn0 hn1 hm0 hm1 hi0 hi1)
  · exact same_post (M := plainM m 6 n mm imm at') rfl rfl hR hT (plain6 m ba bc s0 s1 s2 ta tc n mm imm at' w hn0 hn1 hm0 hm1 hi0 hi1)
  · exact same_post (M := plainM m 7 n mm imm at') rfl rfl hR hT (plain7 m ba bc s0 s1 s2 ta tc n mm imm at' w hn0 hn1 hm0 hm1 hi0 hi1)
  · exact same_post (M := plainM m 8 n mm imm at') rfl rfl hR hT (plain8 m ba bc s0 s1 s2 ta tc n mm imm at' w hn0 hn1 hm0 hm1 hi0 hi1)
  · exact same_post (M := plainM m 9 n mm imm at') rfl rfl hR hT (plain9 m ba bc s0 s1 s2 ta tc n mm imm at' w hn0 hn1 hm0 hm1 hi0 hi1)
  · exact same_post (M := plainM m 10 n mm imm at') rfl rfl hR hT (plain10 m ba bc s0 s1 s2 ta tc n mm imm at' w hn0 hn1 hm0 hm1 hi0 hi1)
  · exact same_post (M := plainM m 11 n mm imm at') rfl rfl hR hT (plain11 m ba bc s0 s1 s2 ta tc n mm imm at' w hn0 hn1 hm0 hm1 hi0 hi1)
  · exact same_post (M := plainM m 12 n mm imm at') rfl rfl hR hT (plain12 m ba bc s0 s1 s2 ta tc n mm imm at' w hn0 hn1 hm0 hm1 hi0 hi1)
  · exact same_post (M := plainM m 13 n mm imm at') rfl rfl hR hT (plain13 m ba bc s0 s1 s2 ta tc n mm imm at' w hn0 hn1 hm0 hm1 hi0 hi1)
  · exact same_post (M := plainM m 14 n mm imm at') rfl rfl hR hT (plain14 m ba bc s0 s1 s2 ta tc n mm imm at' w hn0 hn1 hm0 hm1 hi0 hi1)
  · exact same_post (M := plainM m 15 n mm imm at') rfl rfl hR hT (plain15 m ba bc s0 s1 s2 ta tc n mm imm at' w hn0 hn1 hm0 hm1 hi0 hi1)
  · exact same_post (M := plainM m 16 n mm imm at') rfl rfl hR hT (plain16 m ba bc s0 s1 s2 ta tc n mm imm at' w hn0 hn1 hm0 hm1 hi0 hi1)
  · by_cases hh : hasB m (toI 23 imm at') 2 = true
    · have e1 : plainM m 23 n mm imm at' = setR m n.toNat (loadS m (toI 23 imm at') 2) := by simp [plainM, memAt, memSz, hh]
      have e2 : plainE m 23 n mm imm at' = 0 := by simp [plainE, memAt, memSz, hh]
      rw [e1, e2]
      exact same_post (M := setR m n.toNat (loadS m (toI 23 imm at') 2)) rfl rfl hR hT (plain23y m ba bc s0 s1 s2 ta tc n mm imm at' w hn0 hn1 hm0 hm1 hi0 hi1 ha0 ha1 hR hb0 hb1 (by omega) hh)
    · have hh' : hasB m (toI 23 imm at') 2 = false := by simpa using hh
      have e1 : plainM m 23 n mm imm at' = m := by simp [plainM, memAt, memSz, hh']
      have e2 : plainE m 23 n mm imm at' = 3 := by simp [plainE, memAt, memSz, hh']
      rw [e1, e2]
      exact same_post rfl rfl hR hT (plain23n m ba bc s0 s1 s2 ta tc n mm imm at' w hn0 hn1 hm0 hm1 hi0 hi1 ha0 ha1 hR hb0 hb1 (by omega) hh')
  · by_cases hh : hasB m (toI 24 imm at') 4 = true
    · have e1 : plainM m 24 n mm imm at' = setR m n.toNat (loadS m (toI 24 imm at') 4) := by simp [plainM, memAt, memSz, hh]
      have e2 : plainE m 24 n mm imm at' = 0 := by simp [plainE, memAt, memSz, hh]
      rw [e1, e2]
      exact same_post (M := setR m n.toNat (loadS m (toI 24 imm at') 4)) rfl rfl hR hT (plain24y m ba bc s0 s1 s2 ta tc n mm imm at' w hn0 hn1 hm0 hm1 hi0 hi1 ha0 ha1 hR hb0 hb1 (by omega) hh)
    · have hh' : hasB m (toI 24 imm at') 4 = false := by simpa using hh
      have e1 : plainM m 24 n mm imm at' = m := by simp [plainM, memAt, memSz, hh']
      have e2 : plainE m 24 n mm imm at' = 3 := by simp [plainE, memAt, memSz, hh']
      rw [e1, e2]
      exact same_post rfl rfl hR hT (plain24n m ba bc s0 s1 s2 ta tc n mm imm at' w hn0 hn1 hm0 hm1 hi0 hi1 ha0 ha1 hR hb0 hb1 (by omega) hh')
  · by_cases hh : hasB m (a32 m n) 4 = true
    · have e1 : plainM m 25 n mm imm at' = { m with by' := putS m (a32 m n) (a32 m mm) } := by simp [plainM, memAt, memSz, hh]
      have e2 : plainE m 25 n mm imm at' = 0 := by simp [plainE, memAt, memSz, hh]
      rw [e1, e2]
      exact (plain25y m ba bc s0 s1 s2 ta tc n mm imm at' w hn0 hn1 hm0 hm1 hi0 hi1 hR hb0 hb1 hbl hh).mono fun _ _ ⟨ba', bc', he, hb, hr, hg⟩ => ⟨ba', bc', ta, tc, he, hb, hr, hT.next hb, Or.inr hg, Or.inl ⟨rfl, rfl⟩⟩
    · have hh' : hasB m (a32 m n) 4 = false := by simpa using hh
      have e1 : plainM m 25 n mm imm at' = m := by simp [plainM, memAt, memSz, hh']
      have e2 : plainE m 25 n mm imm at' = 3 := by simp [plainE, memAt, memSz, hh']
      rw [e1, e2]
      exact same_post rfl rfl hR hT (plain25n m ba bc s0 s1 s2 ta tc n mm imm at' w hn0 hn1 hm0 hm1 hi0 hi1 hR hb0 hb1 hbl hh')
  · by_cases hh : hasB m (a32 m mm) 4 = true
    · have e1 : plainM m 26 n mm imm at' = setR m n.toNat (loadS m (a32 m mm) 4) := by simp [plainM, memAt, memSz, hh]
      have e2 : plainE m 26 n mm imm at' = 0 := by simp [plainE, memAt, memSz, hh]
      rw [e1, e2]
      exact same_post (M := setR m n.toNat (loadS m (a32 m mm) 4)) rfl rfl hR hT (plain26y m ba bc s0 s1 s2 ta tc n mm imm at' w hn0 hn1 hm0 hm1 hi0 hi1 ha0 ha1 hR hb0 hb1 (by omega) hh)
    · have hh' : hasB m (a32 m mm) 4 = false := by simpa using hh
      have e1 : plainM m 26 n mm imm at' = m := by simp [plainM, memAt, memSz, hh']
      have e2 : plainE m 26 n mm imm at' = 3 := by simp [plainE, memAt, memSz, hh']
      rw [e1, e2]
      exact same_post rfl rfl hR hT (plain26n m ba bc s0 s1 s2 ta tc n mm imm at' w hn0 hn1 hm0 hm1 hi0 hi1 ha0 ha1 hR hb0 hb1 (by omega) hh')
  · exact hTr m ba bc s0 s1 s2 ta tc n mm imm at' w hn0 hn1 hm0 hm1 hM hR hT

end Go.Proofs.YtabepbaldadmgaaDoor

namespace Go.Proofs.YtabepbaldadmgaaDoor
open Go.RowKit Isa

def zC : Array Value := mC zeroM none 0 (.slice none 0 0) none 0
theorem zSize : (Tryd.prog.info? 29).map (·.size) = some zC.size := by kernel_rfl
theorem zAll : zC.all (·.oneCell') = true := by kernel_rfl
theorem zOld (m : Ma) (ba : Option Addr) (bc : Nat) (sv : Value) (ta : Option Addr) (tc : Nat) : zC.size = (mC m ba bc sv ta tc).size := rfl

theorem res_s {fn : Func} (hr : fn.results = #[.cell 2 29, .tmp 3, .tmp 4]) {T : Array Value} {W : World} {g : Nat} {b : Bool} {e : Int} {c : Array Value} (h2 : T.getD 2 undef = .pointer (some ⟨g, 0, none⟩)) (h3 : T.getD 3 undef = .bool b) (h4 : T.getD 4 undef = .int .i64 e) (hg : W.heap[g]? = some (.cells c 29 (0, 0))) (hs : (Tryd.prog.info? 29).map (·.size) = some c.size) :
    (results fn T).run Tryd.prog W = .ok (.tuple #[.agg c, .bool b, .int .i64 e]) W := by
  have hl := run_loadVar_row (P := Tryd.prog) W g 29 29 c (0, 0) _ hg Tryd.underlying29 rfl hs
  have h2' : T[2]?.getD undef = .pointer (some ⟨g, 0, none⟩) := by simpa using h2
  have h3' : T[3]?.getD undef = .bool b := by simpa using h3
  have h4' : T[4]?.getD undef = .int .i64 e := by simpa using h4
  simp [results, hr, h2', h3', h4', asAddr, hl]

theorem zLit : zC = #[.int .i64 0, .int .i64 0, .int .i64 0, .int .i64 0, .int .i64 0, .int .i64 0, .int .i64 0, .int .i64 0, .int .i64 0, .int .i64 0, .int .i64 0, .int .i64 0, .int .i64 0, .int .i64 0, .int .i64 0, .int .i64 0, .bool false, .int .i64 0, .int .i64 0, .int .i64 0, .slice none 0 0, .slice none 0 0, .slice none 0 0, .int .i64 0] := rfl
set_option maxRecDepth 100000 in
theorem no_any (e : Int) (w : World) : Calls Tryd.prog 22 #[.int .i64 e] w fun en w' => en = .returned (.tuple #[.agg zC, .bool false, .int .i64 e]) ∧ Below w.heap.size w w' := by
  have HB := Lib.hid (oalloc w (.cells zC 29))
  have HK := Lib.hid (blk_new w zC 29)
  rw [zLit] at HB HK
  go_enter Tryd.func22, Tryd.ntmps22
  go_wp2_with (first | (refine wpList_store_row rfl 29 _ _ rfl w.heap.size #[.int .i64 0, .int .i64 0, .int .i64 0, .int .i64 0, .int .i64 0, .int .i64 0, .int .i64 0, .int .i64 0, .int .i64 0, .int .i64 0, .int .i64 0, .int .i64 0, .int .i64 0, .int .i64 0, .int .i64 0, .int .i64 0, .bool false, .int .i64 0, .int .i64 0, .int .i64 0, .slice none 0 0, .slice none 0 0, .slice none 0 0, .int .i64 0] rfl rfl 29 #[.int .i64 0, .int .i64 0, .int .i64 0, .int .i64 0, .int .i64 0, .int .i64 0, .int .i64 0, .int .i64 0, .int .i64 0, .int .i64 0, .int .i64 0, .int .i64 0, .int .i64 0, .int .i64 0, .int .i64 0, .int .i64 0, .bool false, .int .i64 0, .int .i64 0, .int .i64 0, .slice none 0 0, .slice none 0 0, .slice none 0 0, .int .i64 0] HK.out zSize rfl zAll ?_) | fail)
  exact bodyPost_ret (v := .tuple #[.agg zC, .bool false, .int .i64 e]) (res_s Tryd.results22 rfl rfl rfl (setRow_heap _ _ _ _ _ _ HK.out) zSize) rfl ⟨rfl, below_setRow HB.out (Nat.le_refl _) _⟩

/-- The boxes of Step: the machine at w.heap.size, the answer behind it. -/
structure SB (w : World) (M : Ma) (ba : Option Addr) (bc : Nat) (sv : Value) (ta : Option Addr) (tc : Nat) (W : World) : Prop where
  bel : Below w.heap.size w W
  b1 : W.heap[w.heap.size]? = some (.cells (mC M ba bc sv ta tc) 29 (0, 0))
  b2 : W.heap[w.heap.size + 1]? = some (.cells zC 29 (0, 0))
theorem SB.next {w : World} {M : Ma} {ba : Option Addr} {bc : Nat} {sv : Value} {ta : Option Addr} {tc : Nat} {W W' : World} (h : SB w M ba bc sv ta tc W) (hb : Below W.heap.size W W') : SB w M ba bc sv ta tc W' :=
  ⟨h.bel.trans (hb.mono h.bel.size), (hb.block _ (Array.getElem?_eq_some_iff.1 h.b1).1).trans h.b1, (hb.block _ (Array.getElem?_eq_some_iff.1 h.b2).1).trans h.b2⟩
theorem SB.start (w : World) (M : Ma) (ba : Option Addr) (bc : Nat) (sv : Value) (ta : Option Addr) (tc : Nat) (V : World) (hV : V = (w.alloc (.cells (mC M ba bc sv ta tc) 29)).alloc (.cells zC 29)) : SB w M ba bc sv ta tc V := by
  subst hV
  refine ⟨(oalloc _ _).trans ((oalloc _ _).mono (by simp)), ?_, ?_⟩
  · rw [(oalloc _ _).block _ (by simp)]
    exact blk_new _ _ _
  · have := blk_new (w.alloc (.cells (mC M ba bc sv ta tc) 29)) zC 29
    simpa using this
theorem SB.cells {w : World} {M : Ma} {ba : Option Addr} {bc : Nat} {sv : Value} {ta : Option Addr} {tc : Nat} {W : World} (h : SB w M ba bc sv ta tc W) : W.cell? ⟨w.heap.size, 16, none⟩ = some (.bool M.t) ∧ W.cell? ⟨w.heap.size, 17, none⟩ = some (.int .i64 M.pc) ∧ W.cell? ⟨w.heap.size, 18, none⟩ = some (.int .i64 M.pr) ∧ W.cell? ⟨w.heap.size, 23, none⟩ = some (.int .i64 M.st) ∧ W.frozen? ⟨w.heap.size, 17, none⟩ = false ∧ W.frozen? ⟨w.heap.size, 18, none⟩ = false ∧ W.frozen? ⟨w.heap.size, 23, none⟩ = false :=
  ⟨cell_of_block (i := 16) h.b1 rfl, cell_of_block (i := 17) h.b1 rfl, cell_of_block (i := 18) h.b1 rfl, cell_of_block (i := 23) h.b1 rfl, blk_froz h.b1, blk_froz h.b1, blk_froz h.b1⟩

set_option maxRecDepth 100000 in
set_option maxHeartbeats 4000000 in
/-- No instruction is there. -/
theorem step_none (hDec : DecOk) (m : Ma) (ba : Option Addr) (bc : Nat) (s0 : Option Addr) (s1 s2 : Nat) (ta : Option Addr) (tc : Nat) (w : World) (hM : MOk m) (hp0 : -2147483648 ≤ m.pc) (hp1 : m.pc ≤ 4294967296) (hR : BRd w ba m.by') (he : fetchE m m.pc ≠ 0) :
    Calls Tryd.prog 8 #[.agg (mC m ba bc (.slice s0 s1 s2) ta tc)] w fun e w' => e = .returned (.tuple #[.agg zC, .bool false, .int .i64 (fetchE m m.pc)]) ∧ Below w.heap.size w w' := by
  have HS : Hid (SB w m ba bc (.slice s0 s1 s2) ta tc ((w.alloc (.cells (mC m ba bc (.slice s0 s1 s2) ta tc) 29)).alloc (.cells #[.int .i64 0, .int .i64 0, .int .i64 0, .int .i64 0, .int .i64 0, .int .i64 0, .int .i64 0, .int .i64 0, .int .i64 0, .int .i64 0, .int .i64 0, .int .i64 0, .int .i64 0, .int .i64 0, .int .i64 0, .int .i64 0, .bool false, .int .i64 0, .int .i64 0, .int .i64 0, .slice none 0 0, .slice none 0 0, .slice none 0 0, .int .i64 0] 29))) := SB.start w m ba bc (.slice s0 s1 s2) ta tc _ rfl
  have HF := Lib.hid (fetch_any hDec m ba bc (.slice s0 s1 s2) ta tc m.pc ((w.alloc (.cells (mC m ba bc (.slice s0 s1 s2) ta tc) 29)).alloc (.cells #[.int .i64 0, .int .i64 0, .int .i64 0, .int .i64 0, .int .i64 0, .int .i64 0, .int .i64 0, .int .i64 0, .int .i64 0, .int .i64 0, .int .i64 0, .int .i64 0, .int .i64 0, .int .i64 0, .int .i64 0, .int .i64 0, .bool false, .int .i64 0, .int .i64 0, .int .i64 0, .slice none 0 0, .slice none 0 0, .slice none 0 0, .int .i64 0] 29)) (hR.next HS.out.bel) hM.b0 hM.b1 (by have := hM.bl; omega) (by omega) (by omega))
  have HNO := Lib.hid no_any
  have heb : (fetchE m m.pc != 0) = true := by simpa using he
  obtain ⟨c16, c17, c18, c23, f17, f18, f23⟩ := HS.out.cells
  clear hDec hR hM he
  generalize fetchE m m.pc = ee at *
  generalize fV m m.pc 0 = d0 at *
  generalize fV m m.pc 1 = d1 at *
  generalize fV m m.pc 2 = d2 at *
  generalize fV m m.pc 3 = d3 at *
  go_enter Tryd.func8, Tryd.ntmps8
  go_wp2_with (first | (refine wpList_load_row rfl 29 _ rfl w.heap.size rfl 29 (mC m ba bc (.slice s0 s1 s2) ta tc) (0, 0) _ HS.out.b1 Tryd.underlying29 rfl (mSize _ _ _ _ _ _) ?_) | (go_at_call 23; refine HF.out.mono ?_; rintro e W1 ⟨rfl, hb1⟩; have HS1 := Lib.hid (HS.out.next hb1); clear hb1) | (go_at_call 22; refine (HNO.out _ _).mono ?_; rintro e W2 ⟨rfl, hb2⟩; have HS2 := Lib.hid ((HS1.out.next (oalloc _ _)).next hb2); clear hb2) | (refine wpList_store_row rfl 29 _ _ rfl (w.heap.size + 1) zC rfl rfl 29 zC HS2.out.b2 zSize rfl zAll ?_) | fail)
  exact bodyPost_ret (v := .tuple #[.agg zC, .bool false, .int .i64 ee]) (res_s Tryd.results8 rfl rfl rfl (setRow_heap _ _ _ _ _ _ HS2.out.b2) zSize) rfl ⟨rfl, below_setRow HS2.out.bel (by omega) _⟩

/-- It is what it was, or a row that is new. -/
def NearA {α : Type} (w : World) (a a' : Option Addr) (L L' : α) : Prop := (a' = a ∧ L' = L) ∨ ∃ g, a' = some ⟨g, 0, none⟩ ∧ w.heap.size ≤ g

end Go.Proofs.YtabepbaldadmgaaDoor
