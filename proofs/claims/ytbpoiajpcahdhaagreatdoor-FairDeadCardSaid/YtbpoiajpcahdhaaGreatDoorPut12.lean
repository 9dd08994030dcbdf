/- farm.eachOpen: with any function. The contract of the program's own Parse of a message's bytes: what is no message. The contract of the program's own Parse of a message's bytes. -/
import Derived.Test.YtbpoiajpcahdhaaGreatDoorPut10
import Derived.Test.YtbpoiajpcahdhaaGreatDoorPut11
namespace Go.Proofs.YtbpoiajpcahdhaaGreatDoor.Wi
open Go.RowKit

set_option maxHeartbeats 2000000 in
set_option maxRecDepth 100000 in
theorem each_any (g : FuncId) (caps : Array Value) (hent : ∀ args w, (callFunc g args).run Tryz.prog w = .ok (.enter g args) w) (fs : Nat → Fm) (B F gJ cJ gD cD n : Nat) (w : World) (hn : ∀ k, (fs k).jobs.length = n) (hn4 : n ≤ 4) (hB : B ≤ w.heap.size) (h0 : ∃ wv, FO w B F gJ cJ gD cD wv (fs 0))
    (hstep : ∀ (k : Nat) (hk : k < n) (W : World) (wv : Value), FO W B F gJ cJ gD cD wv (fs k) → Below B w W → KF w W → ((fs k).jobs[k]'(by rw [hn]; exact hk)).done = false → Calls Tryz.prog g (#[.int .i64 (k : Int), .pointer (some ⟨gJ, k * 8, none⟩)] ++ caps) W fun e w' => e = .returned (.tuple #[]) ∧ FW W w' B F gJ cJ gD cD (fs (k + 1)))
    (hskip : ∀ (k : Nat) (hk : k < n), ((fs k).jobs[k]'(by rw [hn]; exact hk)).done = true → fs (k + 1) = fs k) :
    Calls Tryz.prog 33 #[.pointer (some ⟨F, 0, none⟩), .func (.func g) #[] caps] w fun e w' => e = .returned (.tuple #[]) ∧ FW w w' B F gJ cJ gD cD (fs n) := by
  obtain ⟨wv, h0⟩ := h0
  have HN := Lib.hid hn
  have HST := Lib.hid hstep
  have HSK := Lib.hid hskip
  have H0 : Hid (FW w w B F gJ cJ gD cD (fs 0)) := FW.of h0
  have c1 : w.cell? ⟨F, 1, none⟩ = some (.slice (some ⟨gJ, 0, none⟩) n cJ) := by
    have := fblk_cell (i := 1) (v := .slice (some ⟨gJ, 0, none⟩) (fs 0).jobs.length cJ) h0.box rfl
    rw [hn] at this
    exact this
  have hF := fblk_lt h0.box
  clear hstep hskip h0
  have HOP := Lib.hid open_any
  go_enter Tryz.func33, Tryz.ntmps33
  go_wp2_with fail
  go_loopw [11] (fun i W => ∃ k : Nat, k ≤ n ∧ i = .int .i64 k ∧ Hid (FW w W B F gJ cJ gD cD (fs k))) (fun i _ => n - (intOf i).toNat)
  case atStart => exact ⟨0, Nat.zero_le _, rfl, H0⟩
  case round =>
    obtain ⟨k, hk, rfl, HW⟩ := hrel
    clear H0 c1
    by_cases hlt : k < n
    · have hk1 : (k : Int) < n := by omega
      obtain ⟨wv, hO⟩ := HW.out.own
      have HO := Lib.hid hO
      have d1 : wr.cell? ⟨F, 1, none⟩ = some (.slice (some ⟨gJ, 0, none⟩) n cJ) := by
        have := fblk_cell (i := 1) (v := .slice (some ⟨gJ, 0, none⟩) (fs k).jobs.length cJ) hO.box rfl
        rw [hn] at this
        exact this
      have hF := fblk_lt hO.box
      obtain ⟨cur, hcu, hrow⟩ := hO.rows.jobs
      have hg := fblk_lt hcu
      obtain ⟨sv, ov, hj, hsv, hov⟩ := hrow k (by rw [hn]; exact hlt)
      obtain ⟨sa, sc, rfl⟩ := hsv.slice
      obtain ⟨oa, oc, rfl⟩ := hov.slice
      have hJC := jc_of hcu hj
      obtain ⟨j, hjj⟩ : ∃ j, (fs k).jobs[k]'(by rw [hn]; exact hlt) = j := ⟨_, rfl⟩
      have HST2 : Hid (∀ W wv, FO W B F gJ cJ gD cD wv (fs k) → Below B w W → KF w W → j.done = false → Calls Tryz.prog g (#[.int .i64 (k : Int), .pointer (some ⟨gJ, k * 8, none⟩)] ++ caps) W fun e w' => e = .returned (.tuple #[]) ∧ FW W w' B F gJ cJ gD cD (fs (k + 1))) := fun W wv h1 h2 h3 h4 => HST.out k hlt W wv h1 h2 h3 (by rw [hjj]; exact h4)
      have HSK2 : Hid (j.done = true → fs (k + 1) = fs k) := fun h => HSK.out k hlt (by rw [hjj]; exact h)
      rw [hjj] at hJC
      have hBr : B ≤ wr.heap.size := Nat.le_trans hB HW.out.bel.size
      obtain ⟨e0, e1, e2, e3, e4, e5, e6, e7⟩ := hJC
      have HOP2 := Lib.hid fun W => HOP.out j sa oa j.src.length sc j.obj.length oc W
      unfold jV at HOP2
      obtain ⟨P, hP⟩ : ∃ P, k * 8 = P := ⟨_, rfl⟩
      rw [hP] at e0 e1 e2 e3 e4 e5 e6 e7 HST2
      obtain ⟨src, wk, tu, wa, dn, ob, er, pl⟩ := j
      simp only at *
      clear HST HSK HOP hrow hj hsv hov hjj hcu hO
      go_wp2_with fail
      refine (HOP2.out _).mono ?_
      rintro e w1 ⟨rfl, hb1⟩
      have HW1 := Lib.hid (HW.out.go hb1 hBr)
      have HO1 := Lib.hid (HO.out.go hb1)
      clear HO HW hb1 e0 e1 e2 e3 e4 e5 e6 e7 HOP2 hF hg
      cases dn
      · go_wp2_with fail
        refine (HST2.out w1 wv HO1.out HW1.out.bel HW1.out.kf (by first | rfl | trivial)).mono ?_
        rintro e w2 ⟨rfl, hw2⟩
        have HW2 := Lib.hid (FW.ahead HW1.out.bel HW1.out.kf hw2)
        clear hw2 HST2 HO1 HW1
        go_wp2_with fail
        exact ⟨⟨k + 1, by omega, by go_num, HW2⟩, by simp [intOf]; omega⟩
      · have e := HSK2.out (by first | rfl | trivial)
        have HW2 : Hid (FW w w1 B F gJ cJ gD cD (fs (k + 1))) := by rw [e]; exact HW1.out
        clear e HW1 HST2 HSK2
        go_wp2_with fail
        exact ⟨⟨k + 1, by omega, by go_num, HW2⟩, by simp [intOf]; omega⟩
    · have hk1 : ¬ (k : Int) < n := by omega
      obtain rfl : k = n := by omega
      go_wp2_with fail
      exact bodyPost_end (v := .tuple #[]) (by simp [results, Tryz.results33, go_sem]) rfl ⟨rfl, HW.out⟩

end Go.Proofs.YtbpoiajpcahdhaaGreatDoor.Wi

namespace Go.Proofs.YtbpoiajpcahdhaaGreatDoor.Wi
open Go.RowKit

def zeroA : Array Value := #[.int .i64 0, .int .i64 0, .int .i64 0, .int .i64 0, .int .i64 0, .int .i64 0, .slice none 0 0]
theorem msSize (m : Ms) (dv : Value) : (Tryz.prog.info? 71).map (·.size) = some (msC m dv).size := by
  show _ = some 7
  kernel_rfl
theorem zSize : (Tryz.prog.info? 71).map (·.size) = some zeroA.size := by kernel_rfl
theorem zAll : zeroA.all (·.oneCell') = true := by kernel_rfl
theorem msAll (m : Ms) (ad : Option Addr) (n cap : Nat) : (msC m (.slice ad n cap)).all (·.oneCell') = true := by kernel_rfl
/-- What a call answers that has its message in a box. -/
theorem res_p {T : Array Value} {W : World} {g : Nat} {e : Int} {cs : Array Value} (h2 : T.getD 2 undef = .pointer (some ⟨g, 0, none⟩)) (h3 : T.getD 3 undef = .int .i64 e) (hg : W.heap[g]? = some (.cells cs 71 (0, 0))) (hs : cs.size = 7) :
    (results Tryz.f39 T).run Tryz.prog W = .ok (.tuple #[.agg cs, .int .i64 e]) W := by
  have hl := run_loadVar_row (P := Tryz.prog) W g 71 71 cs (0, 0) _ hg Tryz.underlying71 rfl (by rw [hs]; kernel_rfl)
  have h2' : T[2]?.getD undef = .pointer (some ⟨g, 0, none⟩) := by simpa using h2
  have h3' : T[3]?.getD undef = .int .i64 e := by simpa using h3
  simp [results, Tryz.results39, h2', h3', asAddr, hl]

/-- A piece of bytes. -/
theorem bytes_sub {w W : World} {b o : Nat} {l : List UInt8} (hc : ∀ i (h : i < l.length), w.cell? ⟨b, o + i, none⟩ = some (.int .u8 (l[i].toNat : Int))) (hl : b < w.heap.size) (hb : Below w.heap.size w W) (i n cap : Nat) (h : i + n ≤ l.length) (hm : l.length ≤ 140737488355328) : OBytes W (.slice (some ⟨b, o + i, none⟩) n cap) ((l.drop i).take n) := by
  have hn : ((l.drop i).take n).length = n := by rw [List.length_take, List.length_drop]; omega
  refine ⟨_, cap, by rw [hn], by rw [hn]; unfold maxLen; omega, fun _ => ⟨b, o + i, rfl, Nat.lt_of_lt_of_le hl hb.size, fun j hj => ?_⟩⟩
  rw [hn] at hj
  rw [hb.cell (by exact hl), Nat.add_assoc, hc (i + j) (by omega)]
  simp
theorem sum_sub {w : World} {b o : Nat} {l : List UInt8} (hc : ∀ i (h : i < l.length), w.cell? ⟨b, o + i, none⟩ = some (.int .u8 (l[i].toNat : Int))) (hl : b < w.heap.size) (hm : l.length ≤ 140737488355328) (h14 : 2 ≤ l.length) (cap : Nat) : ∀ W, Below w.heap.size w W → Calls Tryz.prog 47 #[.slice (some ⟨b, o, none⟩) (l.length - 2) cap] W fun r w' => r = .returned (.int .i64 (sumL (l.take (l.length - 2)))) ∧ w' = W := fun W hb => by
  have h := bytes_sub hc hl hb 0 (l.length - 2) cap (by omega) hm
  rw [List.drop_zero] at h
  exact sum_any _ _ W h
theorem get_sub {l : List UInt8} {v : Value} {w : World} (hB0 : OBytes w v l) (hm : l.length ≤ 140737488355328) (h14 : 14 ≤ l.length) : ∀ W, Below w.heap.size w W → Calls Tryz.prog 48 #[v, .int .i64 ((l.length : Int) - 2), .int .i64 2] W fun e w' => e = .returned (.int .i64 (n2 l (l.length - 2))) ∧ w' = W := fun W h => by
  have := wget_any l v W (hB0.below h (Nat.le_refl _)) ((l.length : Int) - 2) 2 (by decide) (by decide) (by omega) (by omega)
  have e : gN l ((l.length : Int) - 2) (2 : Int).toNat = n2 l (l.length - 2) := by
    have := gN2 l (l.length - 2)
    rw [← this]
    congr 1
    omega
  rwa [e] at this

/-- What is kept while bytes are read. -/
structure PK (w0 w : World) (N G : Nat) (l : List UInt8) : Prop where
  bel : Below N w0 w
  box : w.heap[N]? = some (.cells zeroA 71 (0, 0))
  hd : w.heap[G]? = some (.cells (hdC l) 79 (0, 0))
theorem PK.next {w0 w w' : World} {N G : Nat} {l : List UInt8} (h : PK w0 w N G l) (hb : Below w.heap.size w w') : PK w0 w' N G l :=
  ⟨h.bel.trans (hb.mono (Nat.le_of_lt (Array.getElem?_eq_some_iff.1 h.box).1)), (hb.block _ (Array.getElem?_eq_some_iff.1 h.box).1).trans h.box, (hb.block _ (Array.getElem?_eq_some_iff.1 h.hd).1).trans h.hd⟩
theorem pk_start {w w1 : World} {l : List UInt8} (h : Below (w.alloc (.cells #[.int .i64 0, .int .i64 0, .int .i64 0, .int .i64 0, .int .i64 0, .int .i64 0, .slice none 0 0] 71)).heap.size (w.alloc (.cells #[.int .i64 0, .int .i64 0, .int .i64 0, .int .i64 0, .int .i64 0, .int .i64 0, .slice none 0 0] 71)) w1) :
    PK w (w1.alloc (.cells #[.int .i64 (nB l 0), .int .i64 (nB l 1), .int .i64 (nB l 2), .int .i64 (n2 l 3), .int .i64 (nB l 5), .int .i64 (n2 l 6), .int .i64 (n4 l 8)] 79)) w.heap.size w1.heap.size l := by
  have hz : w.heap.size + 1 ≤ w1.heap.size := by have := h.size; simpa using this
  refine ⟨(bnext (oalloc _ _) h).alloc (by omega) _, ?_, heap_alloc_new _ _⟩
  rw [Below.heap_alloc _ _ _ (by omega)]
  exact msbox h

set_option maxHeartbeats 4000000 in
theorem mparse_long (l : List UInt8) (v : Value) (w : World) (hv : RB w w.heap.size v l) (hl : l.length ≤ 140737488355328) (hW : WL w) (hlen : ¬ (l.length : Int) = 14 + n4 l 8) :
    Calls Tryz.prog 39 #[v] w fun e w' => Below w.heap.size w w' ∧ e = .returned (.tuple #[.agg zeroA, .int .i64 2]) := by
  have hB0 := hv.bytes (Nat.le_refl _) (by unfold maxLen; omega)
  have hRH := fun W (h : Below w.heap.size w W) => readHead_any l v W (hB0.below h (Nat.le_refl _)) (hW.below h (Nat.le_refl _))
  have HRH := Lib.hid hRH
  have h4 := n4_nonneg l 8
  have HA : Hid (∀ o, Below w.heap.size w (w.alloc o)) := fun o => oalloc w o
  clear hRH hW
  unfold hdC at HRH
  obtain ⟨ad, cap, rfl, hbs⟩ := hv
  clear hB0 hbs
  have hlen1 : ((l.length : Int) != 12 + n4 l 8 + 2) = true := by simp; omega
  go_enter Tryz.func39, Tryz.ntmps39
  go_wp2_with (first | (go_at_call 46; refine (HRH.out _ (HA.out _)).mono ?_; rintro e w1 ⟨rfl, hb1⟩; have HPK := Lib.hid (pk_start (l := l) hb1); clear hb1) | (refine wpList_store_row rfl 71 _ _ rfl w.heap.size zeroA rfl rfl 71 zeroA HPK.out.box zSize rfl zAll ?_))
  exact bodyPost_ret (v := .tuple #[.agg zeroA, .int .i64 2]) (res_p rfl rfl (setRow_heap _ _ _ _ _ _ HPK.out.box) rfl) rfl ⟨below_setRow HPK.out.bel (Nat.le_refl _) _, rfl⟩

set_option maxHeartbeats 4000000 in
theorem mparse_sum (l : List UInt8) (v : Value) (w : World) (hv : RB w w.heap.size v l) (hl : l.length ≤ 140737488355328) (hW : WL w) (hlen : (l.length : Int) = 14 + n4 l 8) (hs : ¬ sumL (l.take (l.length - 2)) = n2 l (l.length - 2)) :
    Calls Tryz.prog 39 #[v] w fun e w' => Below w.heap.size w w' ∧ e = .returned (.tuple #[.agg zeroA, .int .i64 2]) := by
  have hB0 := hv.bytes (Nat.le_refl _) (by unfold maxLen; omega)
  have hRH := fun W (h : Below w.heap.size w W) => readHead_any l v W (hB0.below h (Nat.le_refl _)) (hW.below h (Nat.le_refl _))
  have HRH := Lib.hid hRH
  have h4 := n4_nonneg l 8
  have HA : Hid (∀ o, Below w.heap.size w (w.alloc o)) := fun o => oalloc w o
  have HGET := Lib.hid (get_sub hB0 hl (by omega))
  clear hRH hW
  unfold hdC at HRH
  obtain ⟨ad, cap, rfl, hbs⟩ := hv
  rcases hbs with ⟨_, _, rfl⟩ | ⟨a, rfl, hcap, hcs⟩
  · simp at hlen; omega
  obtain ⟨b, o, rfl, hbl, hcs⟩ := hcs (by omega)
  have HSUM := Lib.hid (sum_sub hcs hbl hl (by omega) cap)
  have hs1 : (sumL (l.take (l.length - 2)) != n2 l (l.length - 2)) = true := bne_iff_ne.2 hs
  clear hB0 hcs hs
  have hlen1 : ((l.length : Int) != 12 + n4 l 8 + 2) = false := by simp; omega
  have hge : (14 : Int) ≤ (l.length : Int) := by omega
  have HLEN := Lib.hid hlen
  clear hlen
  go_enter Tryz.func39, Tryz.ntmps39
  go_wp2_with (first | (go_at_call 46; refine (HRH.out _ (HA.out _)).mono ?_; rintro e w1 ⟨rfl, hb1⟩; have HPK := Lib.hid (pk_start (l := l) hb1); clear hb1) | (go_at_call 47; refine (HSUM.out _ HPK.out.bel).mono ?_; rintro e w2 ⟨rfl, rfl⟩) | (go_at_call 48; refine (HGET.out _ HPK.out.bel).mono ?_; rintro e w2 ⟨rfl, rfl⟩) | (refine wpList_store_row rfl 71 _ _ rfl w.heap.size zeroA rfl rfl 71 zeroA HPK.out.box zSize rfl zAll ?_))
  exact bodyPost_ret (v := .tuple #[.agg zeroA, .int .i64 2]) (res_p rfl rfl (setRow_heap _ _ _ _ _ _ HPK.out.box) rfl) rfl ⟨below_setRow HPK.out.bel (Nat.le_refl _) _, rfl⟩

end Go.Proofs.YtbpoiajpcahdhaaGreatDoor.Wi

namespace Go.Proofs.YtbpoiajpcahdhaaGreatDoor.Wi
open Go.RowKit

theorem take_at {P : Program} {md : Region.Mode} {ops : Array Oper} {Q : Exit → Act → World → Prop} {S : World → Prop} (i d : Nat) {oi : Oper} {v : Value} {fuel : Nat} {listed : Array Bool} {T : Array Value} {D : List Deferred} {w : World} (hi : ops[i]? = some oi) (hd : oi.dst = some d)
    (hs : Region.noSelect ops = true) (hf : Region.free md ops listed i = true) (hr : (Region.ready md ops listed).contains i = true)
    (hQ : ∀ c a w, Q (.panic c) (a.put oi.dst v) w → Q (.panic c) a w) (hw : Region.wanted oi (yielded ops T) = true) (hy : ∀ w, S w → (execOp (Act.eval ⟨T, D⟩) oi).run P w = .ok (.value v) w) (hS : S w)
    (h : wpAnyH P md ops Q S fuel (listed.setIfInBounds i true) ⟨T.setIfInBounds d v, D⟩ w) : wpAnyH P md ops Q S (fuel + 1) listed ⟨T, D⟩ w := by
  refine wpAnyH_take hi hs hf hr hQ (Or.inl ⟨hw, hy⟩) hS ?_
  rw [hd]
  exact h
theorem blk_froz {w : World} {b i : Nat} {c : Array Value} {t : TypeId} (h : w.heap[b]? = some (.cells c t (0, 0))) : w.frozen? ⟨b, i, none⟩ = false := by
  unfold World.frozen?
  simp only [h]
  simp
theorem Out.stay {w w' : World} {base : Nat} {v : Value} {l : List UInt8} (h : Out w base v l) (hs : w.heap.size ≤ w'.heap.size) (hk : ∀ k, v.ownBlock = some k → w'.heap[k]? = w.heap[k]?) : Out w' base v l := by
  refine ⟨⟨h.1.1, ?_⟩, Nat.le_trans h.2 hs⟩
  rcases h.1.2 with ⟨rfl, h0⟩ | ⟨g, cap, cur, rfl, hb, hg, r⟩
  · exact .inl ⟨rfl, h0⟩
  · exact .inr ⟨g, cap, cur, rfl, hb, (hk g rfl).trans hg, r⟩
/-- A store of a whole row, as a step of a region that draws. -/
theorem step_store_row {P : Program} {ops : Array Oper} {o : Oper} {a : Act} {w : World} {K : Act → World → Prop} {Q : Exit → Act → World → Prop} {E : Prop} (hgd : o.guard = none) (hd : o.dst = none) (ty : TypeId) (x y : Operand) (ho : o.op = .store ty x y)
    (g : Nat) (cells : Array Value) (hx : a.eval x = .pointer (some ⟨g, 0, none⟩)) (hy : a.eval y = .agg cells)
    (t : TypeId) (old : Array Value) (hg : w.heap[g]? = some (.cells old t (0, 0))) (hi : (P.info? ty).map (·.size) = some cells.size)
    (hold : old.size = cells.size) (h1 : cells.all (·.oneCell') = true) (h : K a (w.setRow g cells)) : if Region.wanted o (yielded ops a.tmps) = true then Oper.wp P o a w K Q else E := by
  have hw : Region.wanted o (yielded ops a.tmps) = true := by simp [Region.wanted, hgd]
  rw [if_pos hw]
  refine wp_store_row ty x y ho g cells hx hy t old hg hi hold h1 ?_
  rw [hd]
  exact h

set_option maxRecDepth 100000 in
set_option maxHeartbeats 4000000 in
theorem mparse_good (l : List UInt8) (v : Value) (w : World) (hv : RB w w.heap.size v l) (hl : l.length ≤ 140737488355328) (hW : WL w) (hlen : (l.length : Int) = 14 + n4 l 8) (hs : sumL (l.take (l.length - 2)) = n2 l (l.length - 2)) :
    Calls Tryz.prog 39 #[v] w fun e w' => Below w.heap.size w w' ∧ (wrongM (msgOf l) ≠ 0 → e = .returned (.tuple #[.agg zeroA, .int .i64 (wrongM (msgOf l))])) ∧ (wrongM (msgOf l) = 0 → ∃ dv, e = .returned (.tuple #[msV (msgOf l) dv, .int .i64 0]) ∧ Out w' w.heap.size dv (msgOf l).data) := by
  have hB0 := hv.bytes (Nat.le_refl _) (by unfold maxLen; omega)
  have hRH := fun W (h : Below w.heap.size w W) => readHead_any l v W (hB0.below h (Nat.le_refl _)) (hW.below h (Nat.le_refl _))
  have HRH := Lib.hid hRH
  have h4 := n4_nonneg l 8
  have HA : Hid (∀ o, Below w.heap.size w (w.alloc o)) := fun o => oalloc w o
  have HGET := Lib.hid (get_sub hB0 hl (by omega))
  clear hRH hW
  unfold hdC at HRH
  obtain ⟨ad, cap, rfl, hbs⟩ := hv
  rcases hbs with ⟨_, _, rfl⟩ | ⟨a, rfl, hcap, hcs⟩
  · simp at hlen; omega
  obtain ⟨b, o, rfl, hbl, hcs⟩ := hcs (by omega)
  have HSUM := Lib.hid (sum_sub hcs hbl hl (by omega) cap)
  have hs1 : (sumL (l.take (l.length - 2)) != n2 l (l.length - 2)) = false := by rw [hs]; simp
  have HDAT : Hid (∀ W, Below w.heap.size w W → OBytes W (.slice (some ⟨b, o + 12, none⟩) (l.length - 14) (cap - 12)) (msgOf l).data) := fun W h => bytes_sub hcs hbl h 12 (l.length - 14) (cap - 12) (by omega) hl
  have HDL : Hid ((msgOf l).data.length = l.length - 14) := msgOf_len (by omega)
  clear hB0 hcs hs
  have hlen1 : ((l.length : Int) != 12 + n4 l 8 + 2) = false := by simp; omega
  have hge : (14 : Int) ≤ (l.length : Int) := by omega
  have HLEN := Lib.hid hlen
  clear hlen
  go_enter Tryz.func39, Tryz.ntmps39
  go_wp2_with (first | (go_at_call 46; refine (HRH.out _ (HA.out _)).mono ?_; rintro e w1 ⟨rfl, hb1⟩; have HPK := Lib.hid (pk_start (l := l) hb1); clear hb1) | (go_at_call 47; refine (HSUM.out _ HPK.out.bel).mono ?_; rintro e w2 ⟨rfl, rfl⟩) | (go_at_call 48; refine (HGET.out _ HPK.out.bel).mono ?_; rintro e w2 ⟨rfl, rfl⟩))
  have HM0 : Hid (PK w (World.drew (w1.alloc (.cells #[.int .i64 (nB l 0), .int .i64 (nB l 1), .int .i64 (nB l 2), .int .i64 (n2 l 3), .int .i64 (nB l 5), .int .i64 (n2 l 6), .int .i64 (n4 l 8)] 79))) w.heap.size w1.heap.size l) := HPK.out.next (Below.refl _ _).drew
  have hK0 := HM0.out.hd
  unfold hdC at hK0
  clear HPK HSUM HGET HRH
  refine wp_region_noPanic ?_
  refine wp_region_held_drew (S := fun w' => w'.heap[w1.heap.size]? = some (.cells #[.int .i64 (nB l 0), .int .i64 (nB l 1), .int .i64 (nB l 2), .int .i64 (n2 l 3), .int .i64 (nB l 5), .int .i64 (n2 l 6), .int .i64 (n4 l 8)] 79 (0, 0))) (by kernel_rfl) hK0 (fun hHeld => ?_)
  clear hK0
  generalize World.drew (w1.alloc _) = V0 at *
  generalize w1.heap.size = G at *
  refine take_at 0 30 (v := ?_) rfl rfl (by kernel_rfl) (by kernel_rfl) (by kernel_rfl) (fun _ _ _ h => h) rfl ?_ hHeld ?_
  rotate_left
  · intro w hSw
    have y0 := cell_of_block (i := 0) hSw rfl
    have y1 := cell_of_block (i := 1) hSw rfl
    have y2 := cell_of_block (i := 2) hSw rfl
    have y3 := cell_of_block (i := 3) hSw rfl
    have y4 := cell_of_block (i := 4) hSw rfl
    have y5 := cell_of_block (i := 5) hSw rfl
    have y6 := cell_of_block (i := 6) hSw rfl
    go_simp
    try with_reducible rfl
  simp only [List.setIfInBounds_toArray, List.set_cons_zero, List.set_cons_succ]
  refine take_at 1 31 (v := ?_) rfl rfl (by kernel_rfl) (by kernel_rfl) (by kernel_rfl) (fun _ _ _ h => h) rfl ?_ hHeld ?_
  rotate_left
  · intro w hSw
    go_simp
    try with_reducible rfl
  simp only [List.setIfInBounds_toArray, List.set_cons_zero, List.set_cons_succ]
  refine take_at 2 32 (v := ?_) rfl rfl (by kernel_rfl) (by kernel_rfl) (by kernel_rfl) (fun _ _ _ h => h) rfl ?_ hHeld ?_
  rotate_left
  · intro w hSw
    go_simp
    try with_reducible rfl
  simp only [List.setIfInBounds_toArray, List.set_cons_zero, List.set_cons_succ]
  refine take_at 3 33 (v := ?_) rfl rfl (by kernel_rfl) (by kernel_rfl) (by kernel_rfl) (fun _ _ _ h => h) rfl ?_ hHeld ?_
  rotate_left
  · intro w hSw
    go_simp
    rw [if_pos (by omega), if_pos (by omega), if_neg (by omega), show ((l.length : Int) - 2).toNat - 12 = l.length - 14 by omega]
    try with_reducible rfl
  simp only [List.setIfInBounds_toArray, List.set_cons_zero, List.set_cons_succ]
  refine wpAnyH_ready (rs := [4, 5]) (by kernel_rfl) (by simp) ?_
  refine AllReadyH.cons rfl (fun K hK => ?_) (AllReadyH.cons rfl (fun K hK => ?_) AllReadyH.nil)
  · go_simp
    refine (message_any _ _ _ _ _ _ _ _ _ _ V0).mono ?_
    rintro e V1 ⟨rfl, hb⟩
    have hH := (hb.block _ (Array.getElem?_eq_some_iff.1 hHeld).1).trans hHeld
    have HM1 := Lib.hid (HM0.out.next hb)
    refine hK.out _ _ hH (fun hHeld => ?_)
    clear hK K hb hH HM0
    refine wpAnyH_ready (rs := [5]) (by kernel_rfl) (by simp) ?_
    refine AllReadyH.cons rfl (fun K hK => ?_) AllReadyH.nil
    go_simp
    have hb := oalloc V1 (.cells #[.int .i64 0, .int .i64 0, .int .i64 0, .int .i64 0, .int .i64 0, .int .i64 0, .slice none 0 0] 71)
    have HG2 : Hid ((V1.alloc (.cells #[.int .i64 0, .int .i64 0, .int .i64 0, .int .i64 0, .int .i64 0, .int .i64 0, .slice none 0 0] 71)).heap[V1.heap.size]? = some (.cells zeroA 71 (0, 0))) := heap_alloc_new V1 _
    have hgz : w.heap.size < V1.heap.size := (Array.getElem?_eq_some_iff.1 HM1.out.box).1
    have hgG : G < V1.heap.size := (Array.getElem?_eq_some_iff.1 HM1.out.hd).1
    have HM2 := Lib.hid (HM1.out.next hb)
    have hH := (hb.block _ (Array.getElem?_eq_some_iff.1 hHeld).1).trans hHeld
    generalize V1.heap.size = g at *
    generalize World.alloc V1 _ = V2 at *
    refine hK.out _ _ hH (fun hHeld => ?_)
    clear hK K hb hH HM1
    refine wpAnyH_ready (rs := [6]) (by kernel_rfl) (by simp) ?_
    refine AllReadyH.cons rfl (fun K hK => ?_) AllReadyH.nil
    have hH : (V2.setRow g #[.int .i64 (nB l 0), .int .i64 (nB l 1), .int .i64 (nB l 2), .int .i64 (n2 l 3), .int .i64 (nB l 5), .int .i64 (n2 l 6), .slice (some ⟨b, o + 12, none⟩) (l.length - 14) (cap - 12)]).heap[G]? = _ := (setRow_other _ _ _ _ (by omega)).trans hHeld
    refine step_store_row (by rfl) (by rfl) 71 _ _ (by rfl) g #[.int .i64 (nB l 0), .int .i64 (nB l 1), .int .i64 (nB l 2), .int .i64 (n2 l 3), .int .i64 (nB l 5), .int .i64 (n2 l 6), .slice (some ⟨b, o + 12, none⟩) (l.length - 14) (cap - 12)] (by rfl) (by rfl) 71 zeroA HG2.out (msSize (msgOf l) _) rfl (msAll (msgOf l) _ _ _) ?_
    have HX : Hid ((V2.setRow g #[.int .i64 (nB l 0), .int .i64 (nB l 1), .int .i64 (nB l 2), .int .i64 (n2 l 3), .int .i64 (nB l 5), .int .i64 (n2 l 6), .slice (some ⟨b, o + 12, none⟩) (l.length - 14) (cap - 12)]).heap[g]? = some (.cells (msC (msgOf l) (.slice (some ⟨b, o + 12, none⟩) (l.length - 14) (cap - 12))) 71 (0, 0))) := setRow_heap _ _ _ _ _ _ HG2.out
    have HMX : Hid (PK w (V2.setRow g #[.int .i64 (nB l 0), .int .i64 (nB l 1), .int .i64 (nB l 2), .int .i64 (n2 l 3), .int .i64 (nB l 5), .int .i64 (n2 l 6), .slice (some ⟨b, o + 12, none⟩) (l.length - 14) (cap - 12)]) w.heap.size G l) := ⟨below_setRow HM2.out.bel (by omega) _, (setRow_other _ _ _ _ (by omega)).trans HM2.out.box, hH⟩
    refine hK.out _ _ hH (fun hHeld => ?_)
    clear hK K hH hHeld HG2 HM2
    refine wpAnyH_done (by kernel_rfl) ?_ _
    refine NoPanic.normal ?_
    generalize World.setRow V2 g _ = X at *
    have HWR : Hid (∀ W, Calls Tryz.prog 50 #[.agg (msC (msgOf l) (.slice (some ⟨b, o + 12, none⟩) (l.length - 14) (cap - 12)))] W fun r w' => r = .returned (.int .i64 (wrongM (msgOf l))) ∧ Below W.heap.size W w') := fun W => by
      have := wrong_any (msgOf l) (some ⟨b, o + 12, none⟩) (cap - 12) W
      rw [HDL.out] at this
      exact this
    have HAPP : Hid (∀ W, PK w W w.heap.size G l → W.heap[g]? = some (.cells (msC (msgOf l) (.slice (some ⟨b, o + 12, none⟩) (l.length - 14) (cap - 12))) 71 (0, 0)) → ∃ pa pn pc w', (∀ ty, (Builtin.append_ #[36, 36] ty #[.slice none 0 0, .slice (some ⟨b, o + 12, none⟩) (l.length - 14) (cap - 12)]).run Tryz.prog W = .ok (.slice pa pn pc) w') ∧ Out w' w.heap.size (.slice pa pn pc) (msgOf l).data ∧ w'.heap[g]? = some (.cells (msC (msgOf l) (.slice (some ⟨b, o + 12, none⟩) (l.length - 14) (cap - 12))) 71 (0, 0)) ∧ PK w w' w.heap.size G l) := fun W hM hg => by
      have hd := HDL.out
      obtain ⟨ad', cap', e', hs'⟩ := OBytes.src (HDAT.out W hM.bel)
      have ho : Out W w.heap.size (.slice none 0 0) [] := ⟨⟨rfl, .inl ⟨rfl, rfl⟩⟩, Nat.le_of_lt (Array.getElem?_eq_some_iff.1 hM.box).1⟩
      injection e' with e1 e2 e3
      subst e1 e3
      obtain ⟨v', w', h1, h2, h3⟩ := app_bytes ho ⟨b, o + 12, none⟩ (l.length - 14) (cap - 12) (msgOf l).data hd (fun j u hj => by
        by_cases h0 : 0 < (msgOf l).data.length
        · obtain ⟨b', o', e, _, hc⟩ := hs' h0
          cases e
          rw [addr_add]
          exact hc j u hj
        · have hn : (msgOf l).data = [] := List.eq_nil_of_length_eq_zero (by omega)
          rw [hn] at hj
          simp [bcells] at hj) (by simp only [List.length_nil]; omega)
      have hb : Below W.heap.size W w' := (Below.refl _ W).grown h3 (Nat.le_refl _) (fun j hj => by simp [Value.ownBlock] at hj)
      rw [List.nil_append] at h2
      have hM' := hM.next hb
      have hg' := (hb.block _ (Array.getElem?_eq_some_iff.1 hg).1).trans hg
      rcases h2.1.2 with ⟨rfl, _⟩ | ⟨g', c', u', rfl, _⟩
      · exact ⟨_, _, _, w', h1, h2, hg', hM'⟩
      · exact ⟨_, _, _, w', h1, h2, hg', hM'⟩
    clear HDAT
    by_cases hw : wrongM (msgOf l) = 0
    · have hw1 : (wrongM (msgOf l) != 0) = false := by rw [hw]; rfl
      have HW := Lib.hid hw
      clear hw
      go_wp2_with (first | (go_at_call 50; refine (HWR.out X).mono ?_; rintro e w2 ⟨rfl, hb2⟩; have HM2 := Lib.hid (HMX.out.next hb2); have HX2 := Lib.hid ((hb2.block _ (Array.getElem?_eq_some_iff.1 HX.out).1).trans HX.out); clear hb2; obtain ⟨pa, pn, pc, w3, happ, HO3, hx3, HM3⟩ := HAPP.out w2 HM2.out HX2.out; have HAP := Lib.hid happ; have c6 : w2.cell? ⟨g, 6, none⟩ = some (.slice (some ⟨b, o + 12, none⟩) (l.length - 14) (cap - 12)) := cell_of_block HX2.out rfl; have x6 : w3.cell? ⟨g, 6, none⟩ = some (.slice (some ⟨b, o + 12, none⟩) (l.length - 14) (cap - 12)) := cell_of_block hx3 rfl; have xf : w3.frozen? ⟨g, 6, none⟩ = false := blk_froz hx3; have HY : Hid ((w3.setCell ⟨g, 6, none⟩ (.slice pa pn pc)).heap[g]? = some (.cells (msC (msgOf l) (.slice pa pn pc)) 71 (0, 0))) := _root_.Go.heap_setCell_same w3 g 6 _ _ _ hx3; have HN : Hid ((w3.setCell ⟨g, 6, none⟩ (.slice pa pn pc)).heap[w.heap.size]? = some (.cells zeroA 71 (0, 0))) := (Below.heap_setCell _ _ _ _ (by show w.heap.size ≠ g; omega)).trans HM3.box; have HM3 := Lib.hid HM3; have HO3 := Lib.hid HO3; have HX3 := Lib.hid hx3; clear happ hx3) | (at_builtin; refine wpList_app_eq rfl _ _ _ _ rfl _ _ rfl rfl HAP.out ?_) | (refine wpList_load_row rfl 71 _ rfl g rfl 71 (msC (msgOf l) (.slice (some ⟨b, o + 12, none⟩) (l.length - 14) (cap - 12))) (0, 0) _ HX.out Tryz.underlying71 rfl (msSize _ _) ?_) | (refine wpList_load_row rfl 71 _ rfl g rfl 71 (msC (msgOf l) (.slice pa pn pc)) (0, 0) _ HY.out Tryz.underlying71 rfl (msSize _ _) ?_) | (refine wpList_store_row rfl 71 _ _ rfl w.heap.size (msC (msgOf l) (.slice pa pn pc)) rfl rfl 71 zeroA HN.out (msSize _ _) rfl (msAll _ _ _ _) ?_))
      refine bodyPost_ret (v := .tuple #[.agg (msC (msgOf l) (.slice pa pn pc)), .int .i64 0]) (res_p rfl rfl (setRow_heap _ _ _ _ _ _ HN.out) rfl) rfl ⟨below_setRow (HM3.out.bel.setCell (by show w.heap.size ≤ g; omega) _) (Nat.le_refl _) _, fun h => absurd HW.out h, fun _ => ⟨.slice pa pn pc, rfl, ?_⟩⟩
      refine HO3.out.stay (by simp) (fun k hk => ?_)
      have n1 : k ≠ g := fun e => HO3.out.other HX3.out (by decide) (by rw [hk, e])
      have n2 : k ≠ w.heap.size := fun e => HO3.out.other HM3.out.box (by decide) (by rw [hk, e])
      rw [setRow_other _ _ _ _ n2, Below.heap_setCell _ _ _ _ (by exact n1)]
    · have hw1 : (wrongM (msgOf l) != 0) = true := bne_iff_ne.2 hw
      have HW := Lib.hid hw
      clear hw HAPP
      go_wp2_with (first | (go_at_call 50; refine (HWR.out X).mono ?_; rintro e w2 ⟨rfl, hb2⟩; have HM2 := Lib.hid (HMX.out.next hb2); have HX2 := Lib.hid ((hb2.block _ (Array.getElem?_eq_some_iff.1 HX.out).1).trans HX.out); clear hb2) | (refine wpList_load_row rfl 71 _ rfl g rfl 71 (msC (msgOf l) (.slice (some ⟨b, o + 12, none⟩) (l.length - 14) (cap - 12))) (0, 0) _ HX.out Tryz.underlying71 rfl (msSize _ _) ?_) | (refine wpList_store_row rfl 71 _ _ rfl w.heap.size zeroA rfl rfl 71 zeroA HM2.out.box zSize rfl zAll ?_))
      exact bodyPost_ret (v := .tuple #[.agg zeroA, .int .i64 (wrongM (msgOf l))]) (res_p rfl rfl (setRow_heap _ _ _ _ _ _ HM2.out.box) rfl) rfl ⟨below_setRow HM2.out.bel (Nat.le_refl _) _, fun _ => rfl, fun h => absurd h HW.out⟩
  · go_simp
    have hb := oalloc V0 (.cells #[.int .i64 0, .int .i64 0, .int .i64 0, .int .i64 0, .int .i64 0, .int .i64 0, .slice none 0 0] 71)
    have HG1 : Hid ((V0.alloc (.cells #[.int .i64 0, .int .i64 0, .int .i64 0, .int .i64 0, .int .i64 0, .int .i64 0, .slice none 0 0] 71)).heap[V0.heap.size]? = some (.cells zeroA 71 (0, 0))) := heap_alloc_new V0 _
    have hgz : w.heap.size < V0.heap.size := (Array.getElem?_eq_some_iff.1 HM0.out.box).1
    have hgG : G < V0.heap.size := (Array.getElem?_eq_some_iff.1 HM0.out.hd).1
    have HM1 := Lib.hid (HM0.out.next hb)
    have hH := (hb.block _ (Array.getElem?_eq_some_iff.1 hHeld).1).trans hHeld
    generalize V0.heap.size = g at *
    generalize World.alloc V0 _ = V1 at *
    refine hK.out _ _ hH (fun hHeld => ?_)
    clear hK K hb hH HM0
    refine wpAnyH_ready (rs := [4]) (by kernel_rfl) (by simp) ?_
    refine AllReadyH.cons rfl (fun K hK => ?_) AllReadyH.nil
    go_simp
    refine (message_any _ _ _ _ _ _ _ _ _ _ V1).mono ?_
    rintro e V2 ⟨rfl, hb⟩
    have hH := (hb.block _ (Array.getElem?_eq_some_iff.1 hHeld).1).trans hHeld
    have HM2 := Lib.hid (HM1.out.next hb)
    have HG2 := Lib.hid ((hb.block _ (Array.getElem?_eq_some_iff.1 HG1.out).1).trans HG1.out)
    refine hK.out _ _ hH (fun hHeld => ?_)
    clear hK K hb hH HM1
    refine wpAnyH_ready (rs := [6]) (by kernel_rfl) (by simp) ?_
    refine AllReadyH.cons rfl (fun K hK => ?_) AllReadyH.nil
    have hH : (V2.setRow g #[.int .i64 (nB l 0), .int .i64 (nB l 1), .int .i64 (nB l 2), .int .i64 (n2 l 3), .int .i64 (nB l 5), .int .i64 (n2 l 6), .slice (some ⟨b, o + 12, none⟩) (l.length - 14) (cap - 12)]).heap[G]? = _ := (setRow_other _ _ _ _ (by omega)).trans hHeld
    refine step_store_row (by rfl) (by rfl) 71 _ _ (by rfl) g #[.int .i64 (nB l 0), .int .i64 (nB l 1), .int .i64 (nB l 2), .int .i64 (n2 l 3), .int .i64 (nB l 5), .int .i64 (n2 l 6), .slice (some ⟨b, o + 12, none⟩) (l.length - 14) (cap - 12)] (by rfl) (by rfl) 71 zeroA HG2.out (msSize (msgOf l) _) rfl (msAll (msgOf l) _ _ _) ?_
    have HX : Hid ((V2.setRow g #[.int .i64 (nB l 0), .int .i64 (nB l 1), .int .i64 (nB l 2), .int .i64 (n2 l 3), .int .i64 (nB l 5), .int .i64 (n2 l 6), .slice (some ⟨b, o + 12, none⟩) (l.length - 14) (cap - 12)]).heap[g]? = some (.cells (msC (msgOf l) (.slice (some ⟨b, o + 12, none⟩) (l.length - 14) (cap - 12))) 71 (0, 0))) := setRow_heap _ _ _ _ _ _ HG2.out
    have HMX : Hid (PK w (V2.setRow g #[.int .i64 (nB l 0), .int .i64 (nB l 1), .int .i64 (nB l 2), .int .i64 (n2 l 3), .int .i64 (nB l 5), .int .i64 (n2 l 6), .slice (some ⟨b, o + 12, none⟩) (l.length - 14) (cap - 12)]) w.heap.size G l) := ⟨below_setRow HM2.out.bel (by omega) _, (setRow_other _ _ _ _ (by omega)).trans HM2.out.box, hH⟩
    refine hK.out _ _ hH (fun hHeld => ?_)
    clear hK K hH hHeld HG2 HM2
    refine wpAnyH_done (by kernel_rfl) ?_ _
    refine NoPanic.normal ?_
    generalize World.setRow V2 g _ = X at *
    have HWR : Hid (∀ W, Calls Tryz.prog 50 #[.agg (msC (msgOf l) (.slice (some ⟨b, o + 12, none⟩) (l.length - 14) (cap - 12)))] W fun r w' => r = .returned (.int .i64 (wrongM (msgOf l))) ∧ Below W.heap.size W w') := fun W => by
      have := wrong_any (msgOf l) (some ⟨b, o + 12, none⟩) (cap - 12) W
      rw [HDL.out] at this
      exact this
    have HAPP : Hid (∀ W, PK w W w.heap.size G l → W.heap[g]? = some (.cells (msC (msgOf l) (.slice (some ⟨b, o + 12, none⟩) (l.length - 14) (cap - 12))) 71 (0, 0)) → ∃ pa pn pc w', (∀ ty, (Builtin.append_ #[36, 36] ty #[.slice none 0 0, .slice (some ⟨b, o + 12, none⟩) (l.length - 14) (cap - 12)]).run Tryz.prog W = .ok (.slice pa pn pc) w') ∧ Out w' w.heap.size (.slice pa pn pc) (msgOf l).data ∧ w'.heap[g]? = some (.cells (msC (msgOf l) (.slice (some ⟨b, o + 12, none⟩) (l.length - 14) (cap - 12))) 71 (0, 0)) ∧ PK w w' w.heap.size G l) := fun W hM hg => by
      have hd := HDL.out
      obtain ⟨ad', cap', e', hs'⟩ := OBytes.src (HDAT.out W hM.bel)
      have ho : Out W w.heap.size (.slice none 0 0) [] := ⟨⟨rfl, .inl ⟨rfl, rfl⟩⟩, Nat.le_of_lt (Array.getElem?_eq_some_iff.1 hM.box).1⟩
      injection e' with e1 e2 e3
      subst e1 e3
      obtain ⟨v', w', h1, h2, h3⟩ := app_bytes ho ⟨b, o + 12, none⟩ (l.length - 14) (cap - 12) (msgOf l).data hd (fun j u hj => by
        by_cases h0 : 0 < (msgOf l).data.length
        · obtain ⟨b', o', e, _, hc⟩ := hs' h0
          cases e
          rw [addr_add]
          exact hc j u hj
        · have hn : (msgOf l).data = [] := List.eq_nil_of_length_eq_zero (by omega)
          rw [hn] at hj
          simp [bcells] at hj) (by simp only [List.length_nil]; omega)
      have hb : Below W.heap.size W w' := (Below.refl _ W).grown h3 (Nat.le_refl _) (fun j hj => by simp [Value.ownBlock] at hj)
      rw [List.nil_append] at h2
      have hM' := hM.next hb
      have hg' := (hb.block _ (Array.getElem?_eq_some_iff.1 hg).1).trans hg
      rcases h2.1.2 with ⟨rfl, _⟩ | ⟨g', c', u', rfl, _⟩
      · exact ⟨_, _, _, w', h1, h2, hg', hM'⟩
      · exact ⟨_, _, _, w', h1, h2, hg', hM'⟩
    clear HDAT
    by_cases hw : wrongM (msgOf l) = 0
    · have hw1 : (wrongM (msgOf l) != 0) = false := by rw [hw]; rfl
      have HW := Lib.hid hw
      clear hw
      go_wp2_with (first | (go_at_call 50; refine (HWR.out X).mono ?_; rintro e w2 ⟨rfl, hb2⟩; have HM2 := Lib.hid (HMX.out.next hb2); have HX2 := Lib.hid ((hb2.block _ (Array.getElem?_eq_some_iff.1 HX.out).1).trans HX.out); clear hb2; obtain ⟨pa, pn, pc, w3, happ, HO3, hx3, HM3⟩ := HAPP.out w2 HM2.out HX2.out; have HAP := Lib.hid happ; have c6 : w2.cell? ⟨g, 6, none⟩ = some (.slice (some ⟨b, o + 12, none⟩) (l.length - 14) (cap - 12)) := cell_of_block HX2.out rfl; have x6 : w3.cell? ⟨g, 6, none⟩ = some (.slice (some ⟨b, o + 12, none⟩) (l.length - 14) (cap - 12)) := cell_of_block hx3 rfl; have xf : w3.frozen? ⟨g, 6, none⟩ = false := blk_froz hx3; have HY : Hid ((w3.setCell ⟨g, 6, none⟩ (.slice pa pn pc)).heap[g]? = some (.cells (msC (msgOf l) (.slice pa pn pc)) 71 (0, 0))) := _root_.Go.heap_setCell_same w3 g 6 _ _ _ hx3; have HN : Hid ((w3.setCell ⟨g, 6, none⟩ (.slice pa pn pc)).heap[w.heap.size]? = some (.cells zeroA 71 (0, 0))) := (Below.heap_setCell _ _ _ _ (by show w.heap.size ≠ g; omega)).trans HM3.box; have HM3 := Lib.hid HM3; have HO3 := Lib.hid HO3; have HX3 := Lib.hid hx3; clear happ hx3) | (at_builtin; refine wpList_app_eq rfl _ _ _ _ rfl _ _ rfl rfl HAP.out ?_) | (refine wpList_load_row rfl 71 _ rfl g rfl 71 (msC (msgOf l) (.slice (some ⟨b, o + 12, none⟩) (l.length - 14) (cap - 12))) (0, 0) _ HX.out Tryz.underlying71 rfl (msSize _ _) ?_) | (refine wpList_load_row rfl 71 _ rfl g rfl 71 (msC (msgOf l) (.slice pa pn pc)) (0, 0) _ HY.out Tryz.underlying71 rfl (msSize _ _) ?_) | (refine wpList_store_row rfl 71 _ _ rfl w.heap.size (msC (msgOf l) (.slice pa pn pc)) rfl rfl 71 zeroA HN.out (msSize _ _) rfl (msAll _ _ _ _) ?_))
      refine bodyPost_ret (v := .tuple #[.agg (msC (msgOf l) (.slice pa pn pc)), .int .i64 0]) (res_p rfl rfl (setRow_heap _ _ _ _ _ _ HN.out) rfl) rfl ⟨below_setRow (HM3.out.bel.setCell (by show w.heap.size ≤ g; omega) _) (Nat.le_refl _) _, fun h => absurd HW.out h, fun _ => ⟨.slice pa pn pc, rfl, ?_⟩⟩
      refine HO3.out.stay (by simp) (fun k hk => ?_)
      have n1 : k ≠ g := fun e => HO3.out.other HX3.out (by decide) (by rw [hk, e])
      have n2 : k ≠ w.heap.size := fun e => HO3.out.other HM3.out.box (by decide) (by rw [hk, e])
      rw [setRow_other _ _ _ _ n2, Below.heap_setCell _ _ _ _ (by exact n1)]
    · have hw1 : (wrongM (msgOf l) != 0) = true := bne_iff_ne.2 hw
      have HW := Lib.hid hw
      clear hw HAPP
      go_wp2_with (first | (go_at_call 50; refine (HWR.out X).mono ?_; rintro e w2 ⟨rfl, hb2⟩; have HM2 := Lib.hid (HMX.out.next hb2); have HX2 := Lib.hid ((hb2.block _ (Array.getElem?_eq_some_iff.1 HX.out).1).trans HX.out); clear hb2) | (refine wpList_load_row rfl 71 _ rfl g rfl 71 (msC (msgOf l) (.slice (some ⟨b, o + 12, none⟩) (l.length - 14) (cap - 12))) (0, 0) _ HX.out Tryz.underlying71 rfl (msSize _ _) ?_) | (refine wpList_store_row rfl 71 _ _ rfl w.heap.size zeroA rfl rfl 71 zeroA HM2.out.box zSize rfl zAll ?_))
      exact bodyPost_ret (v := .tuple #[.agg zeroA, .int .i64 (wrongM (msgOf l))]) (res_p rfl rfl (setRow_heap _ _ _ _ _ _ HM2.out.box) rfl) rfl ⟨below_setRow HM2.out.bel (Nat.le_refl _) _, fun _ => rfl, fun h => absurd h HW.out⟩

/-- Parse of any bytes. -/
theorem mparse_any (l : List UInt8) (v : Value) (w : World) (hv : RB w w.heap.size v l) (hl : l.length ≤ 140737488355328) (hW : WL w) :
    Calls Tryz.prog 39 #[v] w fun e w' => Below w.heap.size w w' ∧ match parseM l with
      | .error x => e = .returned (.tuple #[.agg zeroA, .int .i64 x])
      | .ok m => ∃ dv, e = .returned (.tuple #[msV m dv, .int .i64 0]) ∧ Out w' w.heap.size dv m.data := by
  by_cases h1 : (l.length : Int) = 14 + n4 l 8
  · by_cases h2 : sumL (l.take (l.length - 2)) = n2 l (l.length - 2)
    · refine (mparse_good l v w hv hl hW h1 h2).mono ?_
      rintro e w' ⟨hb, hbad, hok⟩
      refine ⟨hb, ?_⟩
      unfold parseM
      rw [if_pos ⟨h1, h2⟩]
      by_cases h3 : wrongM (msgOf l) = 0
      · rw [if_pos h3]; exact hok h3
      · rw [if_neg h3]; exact hbad h3
    · refine (mparse_sum l v w hv hl hW h1 h2).mono ?_
      rintro e w' ⟨hb, he⟩
      refine ⟨hb, ?_⟩
      unfold parseM
      rw [if_neg (fun h => h2 h.2)]
      exact he
  · refine (mparse_long l v w hv hl hW h1).mono ?_
    rintro e w' ⟨hb, he⟩
    refine ⟨hb, ?_⟩
    unfold parseM
    rw [if_neg (fun h => h1 h.1)]
    exact he

end Go.Proofs.YtbpoiajpcahdhaaGreatDoor.Wi
