/- The contract of the program's own Parse of a message's bytes: what is no message. -/
import Derived.Test.YtmbjahjkgjkbhaaDoorWrF
namespace Go.Proofs.YtmbjahjkgjkbhaaDoor
open Go.RowKit

def zeroA : Array Value := #[.int .i64 0, .int .i64 0, .int .i64 0, .int .i64 0, .int .i64 0, .int .i64 0, .slice none 0 0]
theorem msSize (m : Ms) (dv : Value) : (Tryd.prog.info? 27).map (·.size) = some (msC m dv).size := by
  show _ = some 7
  kernel_rfl
theorem zSize : (Tryd.prog.info? 27).map (·.size) = some zeroA.size := by kernel_rfl
theorem zAll : zeroA.all (·.oneCell') = true := by kernel_rfl
theorem msAll (m : Ms) (ad : Option Addr) (n cap : Nat) : (msC m (.slice ad n cap)).all (·.oneCell') = true := by kernel_rfl
theorem hSize (l : List UInt8) : (Tryd.prog.info? 38).map (·.size) = some (hdC l).size := by
  show _ = some 7
  kernel_rfl
/-- What a call answers that has its message in a box. -/
theorem res_p {T : Array Value} {W : World} {g : Nat} {e : Int} {cs : Array Value} (h2 : T.getD 2 undef = .pointer (some ⟨g, 0, none⟩)) (h3 : T.getD 3 undef = .int .i64 e) (hg : W.heap[g]? = some (.cells cs 27 (0, 0))) (hs : cs.size = 7) :
    (results Tryd.f10 T).run Tryd.prog W = .ok (.tuple #[.agg cs, .int .i64 e]) W := by
  have hl := run_loadVar_row (P := Tryd.prog) W g 27 27 cs (0, 0) _ hg Tryd.underlying27 rfl (by rw [hs]; kernel_rfl)
  have h2' : T[2]?.getD undef = .pointer (some ⟨g, 0, none⟩) := by simpa using h2
  have h3' : T[3]?.getD undef = .int .i64 e := by simpa using h3
  simp [results, Tryd.results10, h2', h3', asAddr, hl]

/-- A piece of bytes. -/
theorem bytes_sub {w W : World} {b o : Nat} {l : List UInt8} (hc : ∀ i (h : i < l.length), w.cell? ⟨b, o + i, none⟩ = some (.int .u8 (l[i].toNat : Int))) (hl : b < w.heap.size) (hb : Below w.heap.size w W) (i n cap : Nat) (h : i + n ≤ l.length) (hm : l.length ≤ 140737488355328) : OBytes W (.slice (some ⟨b, o + i, none⟩) n cap) ((l.drop i).take n) := by
  have hn : ((l.drop i).take n).length = n := by rw [List.length_take, List.length_drop]; omega
  refine ⟨_, cap, by rw [hn], by rw [hn]; unfold maxLen; omega, fun _ => ⟨b, o + i, rfl, Nat.lt_of_lt_of_le hl hb.size, fun j hj => ?_⟩⟩
  rw [hn] at hj
  rw [hb.cell (by exact hl), Nat.add_assoc, hc (i + j) (by omega)]
  simp
theorem sum_sub {w : World} {b o : Nat} {l : List UInt8} (hc : ∀ i (h : i < l.length), w.cell? ⟨b, o + i, none⟩ = some (.int .u8 (l[i].toNat : Int))) (hl : b < w.heap.size) (hm : l.length ≤ 140737488355328) (h14 : 2 ≤ l.length) (cap : Nat) : ∀ W, Below w.heap.size w W → Calls Tryd.prog 15 #[.slice (some ⟨b, o, none⟩) (l.length - 2) cap] W fun r w' => r = .returned (.int .i64 (sumL (l.take (l.length - 2)))) ∧ w' = W := fun W hb => by
  have h := bytes_sub hc hl hb 0 (l.length - 2) cap (by omega) hm
  rw [List.drop_zero] at h
  exact sum_any _ _ W h
theorem get_sub {l : List UInt8} {v : Value} {w : World} (hB0 : OBytes w v l) (hm : l.length ≤ 140737488355328) (h14 : 14 ≤ l.length) : ∀ W, Below w.heap.size w W → Calls Tryd.prog 20 #[v, .int .i64 ((l.length : Int) - 2), .int .i64 2] W fun e w' => e = .returned (.int .i64 (n2 l (l.length - 2))) ∧ w' = W := fun W h => by
  have := wget_any l v W (hB0.below h (Nat.le_refl _)) ((l.length : Int) - 2) 2 (by decide) (by decide) (by omega) (by omega)
  have e : gN l ((l.length : Int) - 2) (2 : Int).toNat = n2 l (l.length - 2) := by
    have := gN2 l (l.length - 2)
    rw [← this]
    congr 1
    omega
  rwa [e] at this

/-- What is kept while bytes are read. -/
structure PK (w0 w : World) (N G : Nat) (l : List UInt8) : Prop where
  bel : Below N w0 w
  box : w.heap[N]? = some (.cells zeroA 27 (0, 0))
  hd : w.heap[G]? = some (.cells (hdC l) 38 (0, 0))
theorem PK.next {w0 w w' : World} {N G : Nat} {l : List UInt8} (h : PK w0 w N G l) (hb : Below w.heap.size w w') : PK w0 w' N G l :=
  ⟨h.bel.trans (hb.mono (Nat.le_of_lt (Array.getElem?_eq_some_iff.1 h.box).1)), (hb.block _ (Array.getElem?_eq_some_iff.1 h.box).1).trans h.box, (hb.block _ (Array.getElem?_eq_some_iff.1 h.hd).1).trans h.hd⟩
theorem pk_start {w w1 : World} {l : List UInt8} (h : Below (w.alloc (.cells #[.int .i64 0, .int .i64 0, .int .i64 0, .int .i64 0, .int .i64 0, .int .i64 0, .slice none 0 0] 27)).heap.size (w.alloc (.cells #[.int .i64 0, .int .i64 0, .int .i64 0, .int .i64 0, .int .i64 0, .int .i64 0, .slice none 0 0] 27)) w1) :
    PK w (w1.alloc (.cells #[.int .i64 (nB l 0), .int .i64 (nB l 1), .int .i64 (nB l 2), .int .i64 (n2 l 3), .int .i64 (nB l 5), .int .i64 (n2 l 6), .int .i64 (n4 l 8)] 38)) w.heap.size w1.heap.size l := by
  have hz : w.heap.size + 1 ≤ w1.heap.size := by have := h.size; simpa using this
  refine ⟨(bnext (oalloc _ _) h).alloc (by omega) _, ?_, heap_alloc_new _ _⟩
  rw [Below.heap_alloc _ _ _ (by omega)]
  exact msbox h

set_option maxHeartbeats 4000000 in
theorem mparse_long (l : List UInt8) (v : Value) (w : World) (hv : RB w w.heap.size v l) (hl : l.length ≤ 140737488355328) (hW : WL w) (hlen : ¬ (l.length : Int) = 14 + n4 l 8) :
    Calls Tryd.prog 10 #[v] w fun e w' => Below w.heap.size w w' ∧ e = .returned (.tuple #[.agg zeroA, .int .i64 2]) := by
  have hB0 := hv.bytes (Nat.le_refl _) (by unfold maxLen; omega)
  have hRH := fun W (h : Below w.heap.size w W) => readHead_any l v W (hB0.below h (Nat.le_refl _)) (hW.below h (Nat.le_refl _))
  have HRH := Lib.hid hRH
  have h4 := n4_nonneg l 8
  have HA : Hid (∀ o, Below w.heap.size w (w.alloc o)) := fun o => oalloc w o
  clear hRH hW
  unfold hdC at HRH
  obtain ⟨ad, cap, rfl, hbs⟩ := hv
  clear hB0 hbs
  have hlen1 : ((l.length : Int) != 12 + n4 l 8 + 2) = true := by simp; omega
  go_enter Tryd.func10, Tryd.ntmps10
  go_wp2_with (first | (go_at_call 19; refine (HRH.out _ (HA.out _)).mono ?_; rintro e w1 ⟨rfl, hb1⟩; have HPK := Lib.hid (pk_start (l := l) hb1); clear hb1) | (refine wpList_store_row rfl 27 _ _ rfl w.heap.size zeroA rfl rfl 27 zeroA HPK.out.box zSize rfl zAll ?_))
  exact bodyPost_ret (v := .tuple #[.agg zeroA, .int .i64 2]) (res_p rfl rfl (setRow_heap _ _ _ _ _ _ HPK.out.box) rfl) rfl ⟨below_setRow HPK.out.bel (Nat.le_refl _) _, rfl⟩

set_option maxHeartbeats 4000000 in
theorem mparse_sum (l : List UInt8) (v : Value) (w : World) (hv : RB w w.heap.size v l) (hl : l.length ≤ 140737488355328) (hW : WL w) (hlen : (l.length : Int) = 14 + n4 l 8) (hs : ¬ sumL (l.take (l.length - 2)) = n2 l (l.length - 2)) :
    Calls Tryd.prog 10 #[v] w fun e w' => Below w.heap.size w w' ∧ e = .returned (.tuple #[.agg zeroA, .int .i64 2]) := by
  have hB0 := hv.bytes (Nat.le_refl _) (by unfold maxLen; omega)
  have hRH := fun W (h : Below w.heap.size w W) => readHead_any l v W (hB0.below h (Nat.le_refl _)) (hW.below h (Nat.le_refl _))
  have HRH := Lib.hid hRH
  have h4 := n4_nonneg l 8
  have HA : Hid (∀ o, Below w.heap.size w (w.alloc o)) := fun o => oalloc w o
  have HGET := Lib.hid (get_sub hB0 hl (by omega))
  clear hRH hW
  unfold hdC at HRH
  obtain ⟨ad, cap, rfl, hbs⟩ := hv
  rcases hbs with ⟨_, _, rfl⟩ | ⟨a, rfl, hcap, hcs⟩
  · simp at hlen; omega
  obtain ⟨b, o, rfl, hbl, hcs⟩ := hcs (by omega)
  have HSUM := Lib.hid (sum_sub hcs hbl hl (by omega) cap)
  have hs1 : (sumL (l.take (l.length - 2)) != n2 l (l.length - 2)) = true := bne_iff_ne.2 hs
  clear hB0 hcs hs
  have hlen1 : ((l.length : Int) != 12 + n4 l 8 + 2) = false := by simp; omega
  have hge : (14 : Int) ≤ (l.length : Int) := by omega
  have HLEN := Lib.hid hlen
  clear hlen
  go_enter Tryd.func10, Tryd.ntmps10
  go_wp2_with (first | (go_at_call 19; refine (HRH.out _ (HA.out _)).mono ?_; rintro e w1 ⟨rfl, hb1⟩; have HPK := Lib.hid (pk_start (l := l) hb1); clear hb1) | (go_at_call 15; refine (HSUM.out _ HPK.out.bel).mono ?_; rintro e w2 ⟨rfl, rfl⟩) | (go_at_call 20; refine (HGET.out _ HPK.out.bel).mono ?_; rintro e w2 ⟨rfl, rfl⟩) | (refine wpList_store_row rfl 27 _ _ rfl w.heap.size zeroA rfl rfl 27 zeroA HPK.out.box zSize rfl zAll ?_))
  exact bodyPost_ret (v := .tuple #[.agg zeroA, .int .i64 2]) (res_p rfl rfl (setRow_heap _ _ _ _ _ _ HPK.out.box) rfl) rfl ⟨below_setRow HPK.out.bel (Nat.le_refl _) _, rfl⟩

end Go.Proofs.YtmbjahjkgjkbhaaDoor
