import Derived.Test.YtgjmbjahgcndnaaGreatDoorPut27
import Derived.Test.YtgjmbjahgcndnaaGreatDoorPut8
set_option maxHeartbeats 1000000
set_option maxRecDepth 100000
namespace Go.Proofs.YtgjmbjahgcndnaaGreatDoor.Sc
open Go.RowKit
def qs : List UInt8 -> List (List UInt8)
 | [] => [[]]
 | c :: r => if c = 10 then [] :: qs r else match qs r with
   | [] => [[c]]
   | x :: y => (c :: x) :: y
theorem qGq (r : List UInt8) : Lib.indexByte ((10 : UInt8) :: r) 10 = 0 := by simp [Lib.indexByte]
theorem qF2 : ∀ (l : List UInt8), Lib.splitK [10] 0 (l.count 10) l = qs l
 | [] => rfl
 | c :: r => by
   have ih := qF2 r
   have hge := Lib.indexByte_ge r 10
   by_cases hc : c = 10
   ·subst hc
    rw [List.count_cons_self]
    unfold Lib.splitK qs
    simp only [Lib.index_one, qGq]
    simp [ih]
   ·have hcnt : (c :: r).count 10 = r.count 10 := by rw [List.count_cons]; simp [hc]
    have hcb : (c == 10) = false := by simpa using hc
    rw [hcnt]
    unfold qs
    rw [if_neg hc, <- ih]
    cases hk : r.count 10 with
    | zero => simp [Lib.splitK]
    | succ k =>
      have hmem : 0 < r.count 10 := by omega
      have hne : Lib.indexByte r 10 ≠ -1 := by
       intro h
       have := Lib.indexByte_none h
       obtain ⟨i, hi, he⟩ := List.getElem_of_mem (List.count_pos_iff.1 hmem)
       exact this i (by rw [List.getElem?_eq_getElem hi, he])
      have h0 : 0 <= Lib.indexByte r 10 := by omega
      have hcons : Lib.indexByte (c :: r) 10 = Lib.indexByte r 10 + 1 := by
       simp only [Lib.indexByte, hcb, Bool.false_eq_true, if_false]
       rw [if_neg (by simpa using hne)]
      unfold Lib.splitK
      simp only [Lib.index_one, hcons]
      have e1 : (Lib.indexByte r 10 + 1 == -1) = false := by
       rw [beq_eq_false_iff_ne]; omega
      have e2 : (Lib.indexByte r 10 == -1) = false := by
       rw [beq_eq_false_iff_ne]; exact hne
      have e3 : (Lib.indexByte r 10 + 1).toNat = (Lib.indexByte r 10).toNat + 1 := by omega
      simp only [e1, e2, e3, Bool.false_eq_true, if_false, Nat.add_zero, List.take_succ_cons, List.length_singleton, List.drop_succ_cons]
structure Ln where
 pos : Int
 toks : List Tok
def qAZ : Nat -> List (List UInt8) -> Except (Int × Int) (List Ln)
 | _, [] => .ok []
 | n, l :: r => if qAM l = 0 then
   match qAZ (n + 1) r with
   | .error e => .error e
   | .ok ls => .ok (if qj l = [] then ls else ⟨n, qj l⟩ :: ls)
   else .error (qAM l, n)
def qAJ (bs : List UInt8) : Except (Int × Int) (List Ln) := if 1200 < bs.length then .error (4, 0) else qAZ 1 (qs bs)
def qC0 (bs : List UInt8) : Int := match qAJ bs with
 | .error e => e.1
 | .ok _ => 0
def qFM (bs : List UInt8) : Int := match qAJ bs with
 | .error e => e.2
 | .ok _ => 0
def qBy (bs : List UInt8) : List Ln := match qAJ bs with
 | .error _ => []
 | .ok ls => ls
def qBL (w : World) (v : Value) (bs : List UInt8) : Prop :=
 ∃ ad cap, v = .slice ad bs.length cap /\ bs.length <= maxLen /\ (0 < bs.length -> ∃ b o, ad = some ⟨b, o, none⟩ /\ b < w.heap.size /\ ∀ i (h : i < bs.length), w.cell? ⟨b, o + i, none⟩ = some (.int .u8 (bs[i].toNat : Int)))
theorem qJQ {w : World} {v : Value} {bs : List UInt8} (h : qBL w v bs) : (convert 31 9 v).run Tryz.prog w = .ok (.string ⟨bs.toArray⟩) w := by
 obtain ⟨ad, cap, rfl, _, hc⟩ := h
 by_cases h0 : 0 < bs.length
 ·obtain ⟨b, o, rfl, _, hcell⟩ := hc h0
  have hrun := run_convert_bytes_arg (P := Tryz.prog) w 31 5 Tryz.underlying31 Tryz.underlying5 b o bs.length cap (bs.map fun c => (c.toNat : Int)) (by simp) (fun i hi => by rw [hcell i hi]; simp [List.getD, hi]) 9 Tryz.underlying9
  have e : strOfNums (bs.map fun c => (c.toNat : Int)) = ⟨bs.toArray⟩ := by
   have hm : (bs.map fun c => (c.toNat : Int)).map (fun n : Int => UInt8.ofNat n.toNat) = bs := by
    rw [List.map_map]
    have : (bs.map ((fun n : Int => UInt8.ofNat n.toNat) ∘ fun c => (c.toNat : Int))) = bs.map id := List.map_congr_left (fun c _ => by simp)
    rw [this, List.map_id]
   unfold strOfNums
   rw [hm]
  rw [e] at hrun
  exact hrun
 ·have hb : bs = [] := List.eq_nil_of_length_eq_zero (by omega)
  subst hb
  cases ad with
  | none => exact run_convert_bytes_nil (P := Tryz.prog) w 31 5 Tryz.underlying31 Tryz.underlying5 0 cap 9 Tryz.underlying9
  | some a =>
    show (convert 31 9 (.slice (some a) 0 cap)).run Tryz.prog w = _
    rw [run_convert_bytes_string w 31 9 5 _ 0 cap Tryz.underlying31 Tryz.underlying5 Tryz.underlying9]
    have hl : (loadCells a 0).run Tryz.prog w = .ok (([] : List Int).map (Value.int .u8)).toArray w := by
     have := run_loadCells_list (P := Tryz.prog) w a ([] : List Value) (fun j v hj => by simp at hj)
     simpa using this
    rw [run_bytesToString w a 0 cap [] hl]
    rfl
def lcells (ps : List (Ln × Value)) : List Value := ps.flatMap fun p => [.int .i64 p.1.pos, p.2]
structure LOwn (w : World) (base : Nat) (v : Value) (ps : List (Ln × Value)) : Prop where
 row : w.ownsRow base 131 2 v ps.length (lcells ps)
 toks : ∀ p, p ∈ ps -> w.ownsRow base 171 3 p.2 p.1.toks.length (tcells p.1.toks)
theorem LOwn.nil (w : World) (base : Nat) : LOwn w base (.slice none 0 0) [] := ⟨World.ownsRow_nil _ _ _ _, fun p h => by simp at h⟩
theorem qd {w w' : World} {base n B : Nat} {e : TypeId} {size : Nat} {v : Value} {xs : List Value} (h : w.ownsRow base e size v n xs) (hb : Below B w w') (hB : w.heap.size <= B) : w'.ownsRow base e size v n xs := by
 refine ⟨h.1, ?_⟩
 rcases h.2 with h | ⟨g, cap, cur, rfl, hg, hgg, rest⟩
 ·exact Or.inl h
 ·refine Or.inr ⟨g, cap, cur, rfl, hg, ?_, rest⟩
  have := (Array.getElem?_eq_some_iff.1 hgg).1
  rw [hb.block g (by omega)]
  exact hgg
theorem LOwn.below {w w' : World} {base B : Nat} {v : Value} {ps : List (Ln × Value)} (h : LOwn w base v ps) (hb : Below B w w') (hB : w.heap.size <= B) : LOwn w' base v ps :=
 ⟨qd h.row hb hB, fun p hp => qd (h.toks p hp) hb hB⟩
theorem qHP {w w' : World} {b b' n n' : Nat} {tv v : Value} {xs ys : List Value} (h : w.ownsRow b 171 3 tv n xs) (hv : w.ownsRow b' 131 2 v n' ys) (hg : w.grownBy w' v.ownBlock) : w'.ownsRow b 171 3 tv n xs := by
 refine h.kept hg ?_
 rcases h.2 with ⟨rfl, _⟩ | ⟨g, cap, cur, rfl, _, hgg, _⟩
 ·exact Or.inl rfl
 ·refine Or.inr ?_
  rcases hv.2 with ⟨rfl, _⟩ | ⟨g', cap', cur', rfl, _, hgg', _⟩
  ·simp [Value.ownBlock]
  ·intro e
   simp [Value.ownBlock] at e
   subst e
   rw [hgg] at hgg'
   simp at hgg'
theorem qJJ (ps : List (Ln × Value)) (p : Ln × Value) : lcells (ps ++ [p]) = lcells ps ++ [.int .i64 p.1.pos, p.2] := by simp [lcells]
theorem info64 : (Tryz.prog.info? 131).map (fun i => (i.zero, i.size, i.bytes)) = some (some (.agg #[.int .i64 0, .slice none 0 0]), 2, 32) := by kernel_rfl
theorem qIP {n : Nat} {l : List UInt8} {r : List (List UInt8)} (h : qAM l ≠ 0) : qAZ n (l :: r) = .error (qAM l, n) := by
 rw [qAZ, if_neg h]
def qDg (done : List Ln) : Except (Int × Int) (List Ln) -> Except (Int × Int) (List Ln)
 | .error e => .error e
 | .ok ls => .ok (done ++ ls)
theorem qHE {n : Nat} {l : List UInt8} {r : List (List UInt8)} {done : List Ln} {X : Except (Int × Int) (List Ln)} (hX : X = qDg done (qAZ n (l :: r))) (h : qAM l = 0) (he : qj l = []) : X = qDg done (qAZ (n + 1) r) := by
 rw [hX, qAZ, if_pos h, he]
 cases qAZ (n + 1) r <;> simp [qDg]
theorem qG1 {n : Nat} {l : List UInt8} {r : List (List UInt8)} {done : List Ln} {X : Except (Int × Int) (List Ln)} (hX : X = qDg done (qAZ n (l :: r))) (h : qAM l = 0) (he : qj l ≠ []) : X = qDg (done ++ [⟨n, qj l⟩]) (qAZ (n + 1) r) := by
 rw [hX, qAZ, if_pos h]
 cases qAZ (n + 1) r <;> simp [qDg, he]
def qKx (base : Nat) (w' : World) (bs : List UInt8) (e : Ending) : Prop :=
 ∃ v ps, e = .returned (.tuple #[v, .agg #[.int .i64 (qC0 bs), .int .i64 (qFM bs)]]) /\ ps.map (·.1) = qBy bs /\ LOwn w' base v ps
theorem qJV (v : Value) (bs : List UInt8) (w : World) (hv : qBL w v bs) (h : 1200 < bs.length) :
  Calls Tryz.prog 42 #[v] w fun e w' => qKx w.heap.size w' bs e /\ Below w.heap.size w w' := by
 obtain ⟨ad, cap, rfl, hm, _⟩ := hv
 have HF : Hid (qC0 bs = 4 /\ qFM bs = 0 /\ qBy bs = []) := by
  unfold Hid qC0 qFM qBy qAJ
  rw [if_pos h]
  exact ⟨rfl, rfl, rfl⟩
 have h' : (1200 : Int) < bs.length := by omega
 unfold maxLen at hm
 go_enter Tryz.func42, Tryz.ntmps42
 go_wp2
 refine bodyPost_ret (v := .tuple #[.slice none 0 0, .agg #[.int .i64 4, .int .i64 0]]) (by simp [results, Tryz.results42, go_sem]) rfl ⟨⟨_, [], by rw [HF.out.1, HF.out.2.1], by rw [HF.out.2.2]; rfl, LOwn.nil _ _⟩, (Below.refl _ _).alloc (Nat.le_refl _) _⟩
theorem qC9 (s : ByteArray) (w : World) (hG : Glob w) (hs : s.size <= 1200) :
  Calls Tryz.prog 66 #[.string s, .string ⟨#[10]⟩] w fun e w' => ∃ L : List ByteArray, L.map (·.data.toList) = qs s.data.toList /\ L.length <= 1201 /\
   e = .returned (.slice (some ⟨w.heap.size, 0, none⟩) L.length L.length) /\ w' = w.alloc (.cells (L.map Value.string).toArray 9) := by
 obtain ⟨m, hm⟩ := hG.m
 refine (Tryz.strings_Split s ⟨#[10]⟩ m w (by omega) hm (by decide)).mono ?_
 rintro e w' ⟨rfl, rfl⟩
 have hcnt : Lib.countB s ⟨#[10]⟩ = s.data.toList.count 10 := by
  unfold Lib.countB
  exact Lib.count_one 10 s.data.toList
 have hlen := Lib.splitB_all ⟨#[10]⟩ (by decide) 0 _ s rfl
 have hle : s.data.toList.count 10 <= s.data.toList.length := List.count_le_length
 have hsz := qAQ (rfl : s.data.toList = _)
 refine ⟨Lib.splitB ⟨#[10]⟩ 0 (Lib.countB s ⟨#[10]⟩) s, ?_, by omega, by rw [hlen], rfl⟩
 rw [Lib.splitB_data, hcnt]
 exact qF2 _
theorem qKk {bs : List UInt8} {X : Except (Int × Int) (List Ln)} (h : bs.length <= 1200) (hX : qAZ 1 (qs bs) = X) : qAJ bs = X := by
 unfold qAJ
 rw [if_neg (by omega), hX]
theorem src_ok {bs : List UInt8} {ls : List Ln} (h : qAJ bs = .ok ls) : qC0 bs = 0 /\ qFM bs = 0 /\ qBy bs = ls := by
 unfold qC0 qFM qBy
 rw [h]
 exact ⟨rfl, rfl, rfl⟩
theorem src_no {bs : List UInt8} {a b : Int} (h : qAJ bs = .error (a, b)) : qC0 bs = a /\ qFM bs = b /\ qBy bs = [] := by
 unfold qC0 qFM qBy
 rw [h]
 exact ⟨rfl, rfl, rfl⟩
theorem qMC {w : World} {b b' : Nat} {v : Value} {ps : List (Ln × Value)} (h : LOwn w b v ps) (hb : b' <= b) : LOwn w b' v ps := ⟨qA2 h.row hb, fun p hp => qA2 (h.toks p hp) hb⟩
theorem qHz {w : World} {b : Nat} {v : Value} {ps : List (Ln × Value)} (h : LOwn w b v ps) {a : Addr} (ha : a.block < b) (u : Value) : LOwn (w.setCell a u) b v ps := ⟨ownsRow_setCell_below h.row ha u, fun p hp => ownsRow_setCell_below (h.toks p hp) ha u⟩
theorem qJf (v : Value) (bs : List UInt8) (w : World) (hG : Glob w) (hv : qBL w v bs) (h : bs.length <= 1200) :
  Calls Tryz.prog 42 #[v] w fun e w' => qKx w.heap.size w' bs e /\ Below w.heap.size w w' := by
 have hconv : ∀ o : Obj, (convert 31 9 v).run Tryz.prog (w.alloc o) = .ok (.string ⟨bs.toArray⟩) (w.alloc o) := by
  intro o
  refine qJQ ?_
  obtain ⟨ad, cap, rfl, hm, hc⟩ := hv
  refine ⟨ad, cap, rfl, hm, fun h0 => ?_⟩
  obtain ⟨b, o', rfl, hlt, hcell⟩ := hc h0
  exact ⟨b, o', rfl, by simp; omega, fun i hi => by rw [World.cell?_alloc_lt _ _ _ (by exact hlt)]; exact hcell i hi⟩
 obtain ⟨ad, cap, rfl, hm, hc⟩ := hv
 clear hc
 unfold maxLen at hm
 have h' : ¬ (1200 : Int) < bs.length := by omega
 obtain ⟨i0, hi, hz0, hz1, hz2⟩ := info_parts info64
 have hsz := hG.sz
 have hbsz : (⟨bs.toArray⟩ : ByteArray).size = bs.length := by simp [ByteArray.size]
 have hG0 : ∀ o : Obj, Glob (w.alloc o) := fun o => hG.below ((Below.refl w.heap.size w).alloc (Nat.le_refl _) o) hsz
 have HG : Hid (Glob w) := hG
 clear hG
 go_enter Tryz.func42, Tryz.ntmps42
 go_wp2_with fail
 refine (qC9 ⟨bs.toArray⟩ _ (hG0 _) (by omega)).mono ?_
 rintro e w1 ⟨L, hL, hL12, rfl, rfl⟩
 have hLl : L.length = (qs bs).length := by rw [<- hL]; simp
 clear hconv hG0
 have hWs : ((w.alloc (.cells #[.int .i64 0, .int .i64 0] 36)).alloc (.cells (L.map Value.string).toArray 9)).heap.size = w.heap.size + 2 := by simp
 have hWB : Below w.heap.size w ((w.alloc (.cells #[.int .i64 0, .int .i64 0] 36)).alloc (.cells (L.map Value.string).toArray 9)) := ((Below.refl _ _).alloc (Nat.le_refl _) _).alloc (by simp) _
 have hWL : ∀ i (h : i < L.length), ((w.alloc (.cells #[.int .i64 0, .int .i64 0] 36)).alloc (.cells (L.map Value.string).toArray 9)).cell? ⟨w.heap.size + 1, i, none⟩ = some (.string L[i]) := by
  intro i h
  simp
 have hW0 : ((w.alloc (.cells #[.int .i64 0, .int .i64 0] 36)).alloc (.cells (L.map Value.string).toArray 9)).cell? ⟨w.heap.size, 0, none⟩ = some (.int .i64 0) /\ ((w.alloc (.cells #[.int .i64 0, .int .i64 0] 36)).alloc (.cells (L.map Value.string).toArray 9)).cell? ⟨w.heap.size, 1, none⟩ = some (.int .i64 0) /\ ((w.alloc (.cells #[.int .i64 0, .int .i64 0] 36)).alloc (.cells (L.map Value.string).toArray 9)).frozen? ⟨w.heap.size, 0, none⟩ = false /\ ((w.alloc (.cells #[.int .i64 0, .int .i64 0] 36)).alloc (.cells (L.map Value.string).toArray 9)).frozen? ⟨w.heap.size, 1, none⟩ = false := by simp [go_sem]
 generalize ((w.alloc (.cells #[.int .i64 0, .int .i64 0] 36)).alloc (.cells (L.map Value.string).toArray 9)) = W at *
 have HWB : Hid (Below w.heap.size w W) := hWB
 have HWL : Hid (∀ i (h : i < L.length), W.cell? ⟨w.heap.size + 1, i, none⟩ = some (.string L[i])) := hWL
 have HW0 : Hid (W.cell? ⟨w.heap.size, 0, none⟩ = some (.int .i64 0) /\ W.cell? ⟨w.heap.size, 1, none⟩ = some (.int .i64 0) /\ W.frozen? ⟨w.heap.size, 0, none⟩ = false /\ W.frozen? ⟨w.heap.size, 1, none⟩ = false) := hW0
 have HL : Hid (L.map (·.data.toList) = qs bs) := hL
 clear hWB hWL hW0 hL
 go_wp2
 go_loopw [4, 17] (fun v i wr => ∃ (k : Nat) (ps : List (Ln × Value)), k <= L.length /\ i = .int .i64 k /\ LOwn wr (w.heap.size + 2) v ps /\ Below (w.heap.size + 2) W wr /\ w.heap.size + 2 <= wr.heap.size /\ Hid (ps.length <= k /\ qAZ 1 (qs bs) = qDg (ps.map (·.1)) (qAZ (k + 1) ((qs bs).drop k)))) (fun _ i _ => L.length - (intOf i).toNat)
 case atStart =>
  refine ⟨0, [], Nat.zero_le _, rfl, LOwn.nil _ _, Below.refl _ _, by omega, Nat.le_refl _, ?_⟩
  show _ = qDg [] (qAZ 1 (qs bs))
  cases qAZ 1 (qs bs) <;> simp [qDg]
 case round =>
  obtain ⟨k, ps, hk, rfl, hown, hB, hz, HH⟩ := hrel
  by_cases hlt : k < L.length
  ·have hk1 : (k : Int) < L.length := by omega
   have hck : wr.cell? ⟨w.heap.size + 1, k, none⟩ = some (.string L[k]) := by rw [hB.cell (by show w.heap.size + 1 < _; omega)]; exact HWL.out k hlt
   have hdrop : Hid ((qs bs).drop k = L[k].data.toList :: (qs bs).drop (k + 1)) := by
    have hk2 : k < (qs bs).length := by omega
    unfold Hid
    rw [List.drop_eq_getElem_cons hk2]
    have e : (qs bs)[k] = L[k].data.toList := by simp only [<- HL.out, List.getElem_map]
    rw [e]
   have hGr : Glob wr := (HG.out.below HWB.out hsz).below hB (by omega)
   have f0 : Hid (wr.cell? ⟨w.heap.size, 0, none⟩ = some (.int .i64 0) /\ wr.cell? ⟨w.heap.size, 1, none⟩ = some (.int .i64 0) /\ wr.frozen? ⟨w.heap.size, 0, none⟩ = false /\ wr.frozen? ⟨w.heap.size, 1, none⟩ = false) := by
    unfold Hid
    rw [hB.cell (by show w.heap.size < _; omega), hB.cell (by show w.heap.size < _; omega), hB.frozen (by show w.heap.size < _; omega), hB.frozen (by show w.heap.size < _; omega)]
    exact HW0.out
   have HB : Hid (Below (w.heap.size + 2) W wr) := hB
   have HO : Hid (LOwn wr (w.heap.size + 2) u4 ps) := hown
   clear hB hown
   obtain ⟨x, hx⟩ : ∃ x, L[k] = x := ⟨_, rfl⟩
   rw [hx] at hck hdrop
   clear hx
   go_wp2_with fail
   refine (qIw x wr hGr).mono ?_
   rintro e w2 ⟨⟨tv, rfl, htv⟩, hb2⟩
   obtain ⟨g00, g01, g10, g11⟩ := f0.out
   have f00 : w2.cell? ⟨w.heap.size, 0, none⟩ = some (.int .i64 0) := by rw [hb2.cell (by show w.heap.size < _; omega)]; exact g00
   have f01 : w2.cell? ⟨w.heap.size, 1, none⟩ = some (.int .i64 0) := by rw [hb2.cell (by show w.heap.size < _; omega)]; exact g01
   have f10 : w2.frozen? ⟨w.heap.size, 0, none⟩ = false := by rw [hb2.frozen (by show w.heap.size < _; omega)]; exact g10
   have f11 : w2.frozen? ⟨w.heap.size, 1, none⟩ = false := by rw [hb2.frozen (by show w.heap.size < _; omega)]; exact g11
   have HB2 : Hid (Below (w.heap.size + 2) W w2) := HB.out.trans (hb2.mono hz)
   have HO2 : Hid (LOwn w2 (w.heap.size + 2) u4 ps) := HO.out.below hb2 (Nat.le_refl _)
   have HT2 : Hid (w2.ownsRow (w.heap.size + 2) 171 3 tv (qj x.data.toList).length (tcells (qj x.data.toList))) := qA2 htv hz
   have hy2 : w.heap.size + 2 <= w2.heap.size := by have := hb2.size; omega
   obtain ⟨td, tc, htr, hrest⟩ := qDC htv
   clear hrest
   clear hb2 htv HB HO hGr hck g00 g01 g10 g11
   by_cases he : qAM x.data.toList = 0
   ·by_cases hn : qj x.data.toList = []
    ·rw [hn] at htr
     simp only [List.length_nil] at htr
     subst htr
     have HN : Hid (ps.length <= k + 1 /\ qAZ 1 (qs bs) = qDg (ps.map (·.1)) (qAZ (k + 1 + 1) ((qs bs).drop (k + 1)))) := by
      refine ⟨by have := HH.out.1; omega, ?_⟩
      exact qHE (by rw [HH.out.2, hdrop.out]) he hn
     rw [he]
     clear HH hdrop HT2 hn
     go_wp2
     exact ⟨⟨k + 1, ps, by omega, by go_num, HO2.out, HB2.out, hy2, HN.out⟩, by simp [intOf]; omega⟩
    ·have hpos : 0 < (qj x.data.toList).length := List.length_pos_iff.2 hn
     have HN : Hid (ps.length + 1 <= k + 1 /\ qAZ 1 (qs bs) = qDg ((ps ++ [((⟨(k : Int) + 1, qj x.data.toList⟩ : Ln), tv)]).map (·.1)) (qAZ (k + 1 + 1) ((qs bs).drop (k + 1)))) := by
      refine ⟨by have := HH.out.1; omega, ?_⟩
      rw [List.map_append]
      exact qG1 (by rw [HH.out.2, hdrop.out]) he hn
     have hpl : ps.length <= 1201 := by have := HH.out.1; omega
     rw [he]
     clear HH hdrop hn
     subst htr
     generalize hgl : qj x.data.toList = TL at *
     have hpos' : (0 : Int) < TL.length := by omega
     have hrow := HO2.out.row
     go_wp2_with (first
      | (at_builtin; refine wpList_append_own _ rfl _ _ 96 rfl (w.heap.size + 2) 131 i0 _ 2 32 Tryz.underlying96 hi hz0 hz1 hz2 rfl (by decide) _ _ _ rfl (hrow.alloc _) ⟨w2.heap.size, 0, none⟩ 1 1 [.int .i64 ((k : Int) + 1), .slice td TL.length tc] rfl rfl ?c1 ?c2 ?c3 ?c4 ?c5 ?_)
      | go_in)
     case c1 =>
      intro j u hj
      match j, hj with
      | 0, hj => simp at hj; subst hj; simp [go_sem, Addr.add]
      | 1, hj => simp at hj; subst hj; simp [go_sem, Addr.add]
     case c2 => intro u hu; simp at hu; rcases hu with rfl | rfl <;> rfl
     case c3 => unfold maxLen; omega
     case c4 => omega
     case c5 => simp; omega
     ·intro v' w3 hown3 hgrow _
      have hrb : ∀ j, u4.ownBlock = some j -> w.heap.size + 2 <= j := fun j hj => (hrow.lt j hj).1
      have HB3 : Hid (Below (w.heap.size + 2) W w3) := (HB2.out.alloc hy2 _).grown hgrow (by simp; omega) hrb
      have hz3 : w.heap.size + 2 <= w3.heap.size := by have := hgrow.size; simp at this; omega
      have HO3 : Hid (LOwn w3 (w.heap.size + 2) v' (ps ++ [((⟨(k : Int) + 1, TL⟩ : Ln), .slice td TL.length tc)])) := by
       refine ⟨?_, fun p hp => ?_⟩
       ·rw [qJJ, List.length_append]
        exact hown3
       ·rcases List.mem_append.1 hp with hp | hp
        ·exact qHP ((HO2.out.toks p hp).alloc _) (hrow.alloc _) hgrow
        ·simp at hp
         subst hp
         exact qHP (HT2.out.alloc _) (hrow.alloc _) hgrow
      clear hown3 hgrow hrb hrow HT2 HO2 HB2
      go_wp2
      exact ⟨⟨k + 1, _, by omega, by go_num, HO3.out, HB3.out, hz3, by rw [List.length_append]; exact HN.out.1, HN.out.2⟩, by simp [intOf]; omega⟩
   ·have HF : Hid (qC0 bs = qAM x.data.toList /\ qFM bs = (k : Int) + 1 /\ qBy bs = []) := by
     refine src_no (qKk h ?_)
     rw [HH.out.2, hdrop.out, qIP he]
     rfl
    have he' : (qAM x.data.toList == 0) = false := by simpa using he
    have HH0 := HH
    clear HH hdrop HH0 HO2 HT2 htr
    generalize qAM x.data.toList = E at *
    go_wp2
    refine bodyPost_ret (v := .tuple #[.slice none 0 0, .agg #[.int .i64 E, .int .i64 ((k : Int) + 1)]]) (by simp [results, Tryz.results42, go_sem, f00, f01]) rfl ⟨⟨_, [], by rw [HF.out.1, HF.out.2.1], by rw [HF.out.2.2]; rfl, LOwn.nil _ _⟩, ?_⟩
    exact ((HWB.out.trans (HB2.out.mono (by omega))).setCell (by exact Nat.le_refl _) _).setCell (by exact Nat.le_refl _) _
  ·have hk1 : ¬ (k : Int) < L.length := by omega
   have HF : Hid (qC0 bs = 0 /\ qFM bs = 0 /\ qBy bs = ps.map (·.1)) := by
    refine src_ok (qKk h ?_)
    rw [HH.out.2, List.drop_eq_nil_of_le (by omega)]
    simp [qAZ, qDg]
   have f0 : wr.cell? ⟨w.heap.size, 0, none⟩ = some (.int .i64 0) /\ wr.cell? ⟨w.heap.size, 1, none⟩ = some (.int .i64 0) /\ wr.frozen? ⟨w.heap.size, 0, none⟩ = false /\ wr.frozen? ⟨w.heap.size, 1, none⟩ = false := by
    rw [hB.cell (by show w.heap.size < _; omega), hB.cell (by show w.heap.size < _; omega), hB.frozen (by show w.heap.size < _; omega), hB.frozen (by show w.heap.size < _; omega)]
    exact HW0.out
   obtain ⟨f00, f01, f10, f11⟩ := f0
   have HB : Hid (Below (w.heap.size + 2) W wr) := hB
   have HO : Hid (LOwn wr (w.heap.size + 2) u4 ps) := hown
   clear hB hown HH
   go_wp2
   refine bodyPost_ret (v := .tuple #[u4, .agg #[.int .i64 0, .int .i64 0]]) (by simp [results, Tryz.results42, go_sem, f00, f01]) rfl ⟨⟨u4, ps, by rw [HF.out.1, HF.out.2.1], HF.out.2.2.symm, ?_⟩, ?_⟩
   ·exact qMC (qHz (qHz HO.out (by show w.heap.size < _; omega) _) (by show w.heap.size < _; omega) _) (by omega)
   ·exact ((HWB.out.trans (HB.out.mono (by omega))).setCell (by exact Nat.le_refl _) _).setCell (by exact Nat.le_refl _) _
theorem qJ1 (v : Value) (bs : List UInt8) (w : World) (hG : Glob w) (hv : qBL w v bs) :
  Calls Tryz.prog 42 #[v] w fun e w' => qKx w.heap.size w' bs e /\ Below w.heap.size w w' := by
 by_cases h : bs.length <= 1200
 ·exact qJf v bs w hG hv h
 ·exact qJV v bs w hv (by omega)
theorem qF8 : ∀ (a r : List UInt8), (∀ c, c ∈ a -> c ≠ 10) -> qs (a ++ 10 :: r) = a :: qs r
 | [], r, _ => by simp [qs]
 | c :: a, r, h => by
   have ih := qF8 a r fun d hd => h d (by simp [hd])
   rw [List.cons_append, qs, if_neg (h c (by simp)), ih]
end Go.Proofs.YtgjmbjahgcndnaaGreatDoor.Sc
namespace Go.Proofs.YtgjmbjahgcndnaaGreatDoor
open Go.RowKit
theorem qB {w : World} {b i : Nat} {c : Array Value} {t : TypeId} {v : Value} (h : w.heap[b]? = some (.cells c t (0, 0))) (hv : c[i]? = some v) : w.cell? ⟨b, i, none⟩ = some v := by simp [World.cell?, h, hv]
theorem qD {w : World} {b i : Nat} {c : Array Value} {t : TypeId} (h : w.heap[b]? = some (.cells c t (0, 0))) : w.frozen? ⟨b, i, none⟩ = false := by simp [World.frozen?, h]
theorem qK (w : World) (c : Array Value) (t : TypeId) : (w.alloc (.cells c t)).heap[w.heap.size]? = some (.cells c t (0, 0)) := by unfold World.alloc; simp only [Array.getElem?_push_size]
theorem qC {w : World} {b : Nat} {o : Obj} (h : w.heap[b]? = some o) : b < w.heap.size := (Array.getElem?_eq_some_iff.1 h).1
theorem qJ {w : World} {b i : Nat} {c : Array Value} {t : TypeId} {v : Value} (h : w.heap[b]? = some (.cells c t (0, 0))) : (w.setCell ⟨b, i, none⟩ v).heap[b]? = some (.cells (c.setIfInBounds i v) t (0, 0)) := _root_.Go.heap_setCell_same w b i c t v h
def chC (b : Bool) (nm : ByteArray) (n : Int) : Array Value := #[.bool b, .string nm, .int .i64 n, .slice none 0 0, .int .i64 0]
def ptC (a : ByteArray) (b : Bool) (ev : Value) (q : Nat) (u : Bool) (e : Int) : Array Value := #[.string a, .bool b, ev, .slice none 0 0, .slice (some ⟨q, 0, none⟩) 1 1, .bool u, .int .i64 e]
theorem makeC (w : World) : (Instr.makeSlice 330 (.int .i64 1) (.int .i64 1)).run Tryz.prog w = .ok (.slice (some ⟨w.heap.size, 0, none⟩) 1 1) (w.alloc (.cells #[.bool false, .string ⟨#[]⟩, .int .i64 0, .slice none 0 0, .int .i64 0] 353)) := by kernel_rfl
structure PR (w : World) (g q : Nat) (a : ByteArray) (b : Bool) (ev : Value) (u : Bool) (e : Int) (cb : Bool) (nm : ByteArray) (n : Int) : Prop where
 pt : w.heap[g]? = some (.cells (ptC a b ev q u e) 332 (0, 0))
 ch : w.heap[q]? = some (.cells (chC cb nm n) 353 (0, 0))
theorem PR.ne {w : World} {g q : Nat} {a : ByteArray} {b : Bool} {ev : Value} {u : Bool} {e : Int} {cb : Bool} {nm : ByteArray} {n : Int} (h : PR w g q a b ev u e cb nm n) : g ≠ q := by
 intro e
 subst e
 have := h.pt.symm.trans h.ch
 simp at this
theorem PR.go {w w' : World} {g q : Nat} {a : ByteArray} {b : Bool} {ev : Value} {u : Bool} {e : Int} {cb : Bool} {nm : ByteArray} {n : Int} (h : PR w g q a b ev u e cb nm n) (hb : Below w.heap.size w w') : PR w' g q a b ev u e cb nm n :=
 ⟨by rw [hb.block _ (qC h.pt)]; exact h.pt, by rw [hb.block _ (qC h.ch)]; exact h.ch⟩
theorem qDk (a : ByteArray) (b : Bool) (ad : Option Addr) (len cap : Nat) (w : World) : Calls Tryz.prog 218 #[.agg #[.string a, .bool b], .slice ad len cap] w fun r w' =>
  (∃ g q, r = .returned (.pointer (some ⟨g, 0, none⟩)) /\ w.heap.size <= g /\ w.heap.size <= q /\ PR w' g q a b (.slice ad len cap) false 0 false ⟨#[]⟩ 0) /\ Below w.heap.size w w' := by
 have hm := makeC
 go_enter Tryz.func218, Tryz.ntmps218
 go_wp2
 go_region
 go_wp2
 go_ret
 refine ⟨⟨w.heap.size + 1 + 1, w.heap.size + 1, rfl, by omega, by omega, ?_, ?_⟩, ?_⟩
 ·show (World.alloc _ _).heap[_]? = _
  exact qH _ _ (by simp)
 ·show (World.alloc _ _).heap[w.heap.size + 1]? = _
  rw [old2 _ _ (by simp)]
  exact qH _ _ (by simp)
 ·exact (((qE w _).alloc (by simp) _).alloc (by simp; omega) _).drew
theorem qE4 (g : Nat) (e : Int) (w : World) (h : w.cell? ⟨g, 6, none⟩ = some (.int .i64 e)) : Calls Tryz.prog 225 #[.pointer (some ⟨g, 0, none⟩)] w fun r w' => r = .returned (.int .i64 e) /\ w' = w := by
 go_enter Tryz.func225, Tryz.ntmps225
 go_wp2
 go_ret
 exact ⟨rfl, rfl⟩
theorem qAC (s : ByteArray) (hs : s = ⟨#[]⟩ \/ s = ⟨#[45]⟩) (w : World) : Calls Tryz.prog 258 #[.string s] w fun r w' => r = .returned (.string ⟨#[]⟩) /\ w' = w := by
 have HL : Hid (∀ W, Calls Tryz.prog 270 #[.string s, .string ⟨#[40]⟩] W fun e w' => e = .returned (.int .i64 (-1)) /\ w' = W) := fun W => by
  have := Tryz.strings_LastIndex_one s ⟨#[40]⟩ rfl (by rcases hs with rfl | rfl <;> decide) W
  rcases hs with rfl | rfl <;> exact this
 rcases hs with rfl | rfl
 all_goals
  go_enter Tryz.func258, Tryz.ntmps258
  go_wp2_with (go_at_call 270; refine (HL.out _).mono ?_; rintro e w1 ⟨rfl, rfl⟩)
  go_ret
  exact ⟨rfl, rfl⟩
theorem last_any (g q : Nat) (w : World) (h : w.cell? ⟨g, 4, none⟩ = some (.slice (some ⟨q, 0, none⟩) 1 1)) : Calls Tryz.prog 261 #[.pointer (some ⟨g, 0, none⟩)] w fun r w' => r = .returned (.pointer (some ⟨q, 0, none⟩)) /\ Below w.heap.size w w' := by
 go_enter Tryz.func261, Tryz.ntmps261
 go_wp2
 go_quiet (fail)
 go_wp2
 go_ret
 exact ⟨rfl, below_drewN (Below.refl _ _) _⟩
theorem gtrans {a b c : World} {r : Option Nat} (h : a.grownBy b r) (k : b.grownBy c r) : a.grownBy c r :=
 ⟨k.os.trans h.os, k.tape.trans h.tape, k.output.trans h.output, Nat.le_trans h.size k.size, fun i hi hr => (k.block i (Nat.lt_of_lt_of_le hi h.size) hr).trans (h.block i hi hr)⟩
theorem gbelow {w w' : World} {B : Nat} (r : Option Nat) (h : Below B w w') (hB : w.heap.size <= B) : w.grownBy w' r :=
 ⟨h.os, h.tape, h.output, h.size, fun i hi _ => h.block i (by omega)⟩
theorem gset (w : World) (B o : Nat) (v : Value) : w.grownBy (w.setCell ⟨B, o, none⟩ v) (some B) :=
 ⟨rfl, rfl, rfl, by simp, fun _ _ hne => Below.heap_setCell _ _ _ _ (fun e => hne (by rw [e]))⟩
structure F2 (g q : Nat) (w w' : World) : Prop where
 os : w'.os = w.os
 tape : w'.tape = w.tape
 output : w'.output = w.output
 size : w.heap.size <= w'.heap.size
 block : ∀ i, i < w.heap.size -> i ≠ g -> i ≠ q -> w'.heap[i]? = w.heap[i]?
theorem F2.trans {g q : Nat} {a b c : World} (h : F2 g q a b) (k : F2 g q b c) : F2 g q a c := ⟨k.os.trans h.os, k.tape.trans h.tape, k.output.trans h.output, Nat.le_trans h.size k.size, fun i hi h1 h2 => (k.block i (Nat.lt_of_lt_of_le hi h.size) h1 h2).trans (h.block i hi h1 h2)⟩
theorem F2.below {g q : Nat} {w w' : World} (h : Below w.heap.size w w') : F2 g q w w' := ⟨h.os, h.tape, h.output, h.size, fun i hi _ _ => h.block i hi⟩
theorem F2.left {g q : Nat} {w w' : World} (h : w.grownBy w' (some g)) : F2 g q w w' := ⟨h.os, h.tape, h.output, h.size, fun i hi h1 _ => h.block i hi (fun e => h1 (by injection e))⟩
theorem F2.right {g q : Nat} {w w' : World} (h : w.grownBy w' (some q)) : F2 g q w w' := ⟨h.os, h.tape, h.output, h.size, fun i hi _ h2 => h.block i hi (fun e => h2 (by injection e))⟩
theorem F2.to {g q B : Nat} {w w' : World} (h : F2 g q w w') (b1 : B <= g) (b2 : B <= q) (b3 : B <= w.heap.size) : Below B w w' := ⟨h.os, h.tape, h.output, h.size, fun i hi => h.block i (by omega) (by omega) (by omega)⟩
theorem cput_any (q : Nat) (nm : ByteArray) (n : Int) (w : World) (h : w.heap[q]? = some (.cells (chC false ⟨#[]⟩ 0) 353 (0, 0))) :
  Calls Tryz.prog 268 #[.pointer (some ⟨q, 0, none⟩), .agg #[.string nm, .int .i64 n]] w fun r w' => r = .returned (.tuple #[]) /\ w'.heap[q]? = some (.cells (chC true nm n) 353 (0, 0)) /\ w.grownBy w' (some q) := by
 have c0 : w.cell? ⟨q, 0, none⟩ = some (.bool false) := qB h rfl
 have c1 : w.cell? ⟨q, 1, none⟩ = some (.string ⟨#[]⟩) := qB h rfl
 have c2 : w.cell? ⟨q, 2, none⟩ = some (.int .i64 0) := qB h rfl
 have c4 : w.cell? ⟨q, 4, none⟩ = some (.int .i64 0) := qB h rfl
 have f0 := qD h (i := 0)
 have f1 := qD h (i := 1)
 have f2 := qD h (i := 2)
 have hq := qC h
 have H := Lib.hid h
 clear h
 go_enter Tryz.func268, Tryz.ntmps268
 go_wp2
 go_region
 go_wp2
 refine bodyPost_ret (v := .tuple #[]) (by simp [results, Tryz.results268, go_sem]) rfl ⟨rfl, ?_, ?_⟩
 ·show (World.alloc _ _).heap[q]? = _
  rw [old2 _ _ (by simpa using hq)]
  exact qJ (qJ (qJ H.out))
 ·exact gtrans (gtrans (gtrans (gset w q 0 _) (gset _ q 1 _)) (gset _ q 2 _)) (gbelow _ (qE _ _).drew (Nat.le_refl _))
theorem qCI (g q : Nat) (a : ByteArray) (ha : a = ⟨#[]⟩ \/ a = ⟨#[45]⟩) (b : Bool) (ev : Value) (u : Bool) (e : Int) (nm : ByteArray) (n : Int) (w : World) (h : PR w g q a b ev u e false ⟨#[]⟩ 0) :
  Calls Tryz.prog 256 #[.pointer (some ⟨g, 0, none⟩), .agg #[.string nm, .int .i64 n]] w fun r w' => r = .returned (.tuple #[]) /\ PR w' g q ⟨#[]⟩ true ev u e true nm n /\ F2 g q w w' := by
 have c0 : w.cell? ⟨g, 0, none⟩ = some (.string a) := qB h.pt rfl
 have c1 : w.cell? ⟨g, 1, none⟩ = some (.bool b) := qB h.pt rfl
 have f0 := qD h.pt (i := 0)
 have f1 := qD h.pt (i := 1)
 have hq := qC h.pt
 have HW := Lib.hid (qAC a ha)
 have H := Lib.hid h
 clear h
 go_enter Tryz.func256, Tryz.ntmps256
 go_wp2_with (go_at_call 258; refine (HW.out _).mono ?_; rintro e w1 ⟨rfl, rfl⟩)
 have hc : (((w.setCell ⟨g, 0, none⟩ (.string ⟨#[]⟩)).setCell ⟨g, 1, none⟩ (.bool true)).alloc (.cells #[.string nm, .int .i64 n] 201)).heap[w.heap.size]? = some (.cells #[.string nm, .int .i64 n] 201 (0, 0)) := qH _ _ (by simp)
 have HP : Hid (PR (((w.setCell ⟨g, 0, none⟩ (.string ⟨#[]⟩)).setCell ⟨g, 1, none⟩ (.bool true)).alloc (.cells #[.string nm, .int .i64 n] 201)) g q ⟨#[]⟩ true ev u e false ⟨#[]⟩ 0) := by
  refine ⟨?_, ?_⟩
  ·rw [old2 _ _ (by simpa using hq)]
   exact qJ (qJ H.out.pt)
  ·rw [old2 _ _ (by simpa using qC H.out.ch), Below.heap_setCell _ _ _ _ H.out.ne.symm, Below.heap_setCell _ _ _ _ H.out.ne.symm]
   exact H.out.ch
 have HB : Hid (F2 g q w (((w.setCell ⟨g, 0, none⟩ (.string ⟨#[]⟩)).setCell ⟨g, 1, none⟩ (.bool true)).alloc (.cells #[.string nm, .int .i64 n] 201))) := ((F2.left (gset w g 0 _)).trans (F2.left (gset _ g 1 _))).trans (F2.below (qE _ _))
 have hz : (((w.setCell ⟨g, 0, none⟩ (.string ⟨#[]⟩)).setCell ⟨g, 1, none⟩ (.bool true)).alloc (.cells #[.string nm, .int .i64 n] 201)).heap.size = w.heap.size + 1 := by simp
 generalize (((w.setCell ⟨g, 0, none⟩ (.string ⟨#[]⟩)).setCell ⟨g, 1, none⟩ (.bool true)).alloc (.cells #[.string nm, .int .i64 n] 201)) = W at *
 have d0 : W.cell? ⟨w.heap.size, 0, none⟩ = some (.string nm) := qB hc rfl
 have d1 : W.cell? ⟨w.heap.size, 1, none⟩ = some (.int .i64 n) := qB hc rfl
 clear hc c0 c1 f0 f1 HW H
 have HLA : Hid (∀ W', Below W.heap.size W W' -> Calls Tryz.prog 261 #[.pointer (some ⟨g, 0, none⟩)] W' fun r w' => r = .returned (.pointer (some ⟨q, 0, none⟩)) /\ Below W.heap.size W w') := fun W' hb => by
  refine (last_any g q W' (qB (HP.out.go hb).pt rfl)).mono ?_
  rintro r w' ⟨rfl, h⟩
  exact ⟨rfl, hb.trans (h.mono hb.size)⟩
 have HCP : Hid (∀ W', Below W.heap.size W W' -> Calls Tryz.prog 268 #[.pointer (some ⟨q, 0, none⟩), .agg #[.string nm, .int .i64 n]] W' fun r w' => r = .returned (.tuple #[]) /\ PR w' g q ⟨#[]⟩ true ev u e true nm n /\ F2 g q w w') := fun W' hb => by
  refine (cput_any q nm n W' (HP.out.go hb).ch).mono ?_
  rintro r w' ⟨rfl, h1, h2⟩
  refine ⟨rfl, ⟨?_, h1⟩, ?_⟩
  ·rw [h2.block g (qC (HP.out.go hb).pt) (by intro e; injection e with e; exact HP.out.ne e)]
   exact (HP.out.go hb).pt
  ·exact (HB.out.trans (F2.below hb)).trans (F2.right h2)
 go_region_with (first | (go_at_call 261; refine (HLA.out _ (Below.refl _ _).drew).mono ?_; rintro r w2 ⟨rfl, hb2⟩; have d0' : w2.cell? ⟨w.heap.size, 0, none⟩ = some (.string nm) := (hb2.cell (by show w.heap.size < W.heap.size; omega)).trans d0; have d1' : w2.cell? ⟨w.heap.size, 1, none⟩ = some (.int .i64 n) := (hb2.cell (by show w.heap.size < W.heap.size; omega)).trans d1) | (go_at_call 268; refine (HCP.out _ hb2).mono ?_; rintro r w3 ⟨rfl, hp3, hb3⟩))
 all_goals exact bodyPost_end (v := .tuple #[]) (by simp [results, Tryz.results256, go_sem]) rfl ⟨rfl, hp3, hb3⟩
end Go.Proofs.YtgjmbjahgcndnaaGreatDoor
