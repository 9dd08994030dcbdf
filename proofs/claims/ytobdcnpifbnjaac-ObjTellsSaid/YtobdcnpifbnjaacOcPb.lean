/- The contract of the program's own Parse of bytes. -/
import Derived.Test.YtobdcnpifbnjaacOcPa
namespace Go.Proofs.Ytobdcnpifbnjaac
open Go.RowKit

/-- Nothing: an object of three nil slices. -/
def obZ : Value := obV (.slice none 0 0) (.slice none 0 0) (.slice none 0 0)
/-- What Parse answers. -/
def ParseEnd (w : World) (l : List UInt8) (e : Ending) (w' : World) : Prop := Below w.heap.size w w' ∧ match parseO nameR l with
  | .error y => e = .returned (.tuple #[obZ, .int .i64 y])
  | .ok o => ∃ c s r, e = .returned (.tuple #[obV c s r, .int .i64 0]) ∧ OBytes w' c o.code ∧ OSyms w' s o.syms ∧ ORels w' r o.rels

theorem RB.up {w : World} {Q Q' : Nat} {v : Value} {l : List UInt8} (h : RB w Q v l) (hQ : Q ≤ Q') : RB w Q' v l := by
  obtain ⟨ad, cap, rfl, h⟩ := h
  refine ⟨ad, cap, rfl, ?_⟩
  rcases h with h | ⟨a, rfl, hc, h⟩
  · exact .inl h
  · refine .inr ⟨a, rfl, hc, fun h0 => ?_⟩
    obtain ⟨b, o, e, hb, hcs⟩ := h h0
    exact ⟨b, o, e, by omega, hcs⟩
/-- The reader as Parse begins. -/
theorem DR_new {w : World} {N : Nat} {ad : Option Addr} {cap : Nat} {l : List UInt8} (h : RB w w.heap.size (.slice ad l.length cap) l) (hl : l.length ≤ 140737488355328) (o : Obj) (hN : N = w.heap.size + 1) : DR ((w.alloc o).alloc (.cells #[.slice ad l.length cap, .bool false] 52)) N l false := by
  subst hN
  have e := heap_alloc_new (w.alloc o) (.cells #[.slice ad l.length cap, .bool false] 52)
  simp only [World.size_alloc] at e
  refine ⟨hl, ad, cap, e, ?_⟩
  obtain ⟨ad', cap', e', hs⟩ := h.up (Nat.le_succ _)
  cases e'
  refine (h.up (Q' := w.heap.size) (Nat.le_refl _)).elim fun a1 h1 => h1.elim fun c1 h2 => ?_
  obtain ⟨e2, h3⟩ := h2
  cases e2
  rcases h3 with h3 | ⟨a, rfl, hc, h3⟩
  · exact .inl h3
  · refine .inr ⟨a, rfl, hc, fun h0 => ?_⟩
    obtain ⟨b, p, rfl, hb, hcs⟩ := h3 h0
    refine ⟨b, p, rfl, by omega, fun i hi => ?_⟩
    rw [World.cell?_alloc_lt _ _ _ (by simp; omega), World.cell?_alloc_lt _ _ _ (by exact hb)]
    exact hcs i hi

set_option maxHeartbeats 4000000 in
theorem parse_mark (l : List UInt8) (v : Value) (w : World) (hv : RB w w.heap.size v l) (hl : l.length ≤ 140737488355328) (hm : (dT 3 l false).1 ≠ [79, 66, 74]) :
    Calls Try.prog 10 #[v] w fun e w' => ParseEnd w l e w' := by
  have HP : Hid (parseO nameR l = .error 2) := by unfold Hid parseO; rw [readO_mark, if_neg hm]
  obtain ⟨ad, cap, rfl, z⟩ := hv
  have hd := DR_new ⟨ad, cap, rfl, z⟩ hl (.cells #[.slice none 0 0, .slice none 0 0, .slice none 0 0] 26) rfl
  have ht := take_any (w.heap.size + 1) l false 3 _ hd
  have hne : ((dT 3 l false).1 == [79, 66, 74]) = false := by simpa using hm
  have hfew : (dT 3 l false).1.length ≤ maxLen := dT_few hl
  clear z hl hm hd
  generalize dT 3 l false = a1 at *
  go_enter Try.func10, Try.ntmps10
  go_wp2_with fail
  refine ht.mono ?_
  rintro e w1 ⟨v1, rfl, hv1, hd1, hg1⟩
  have hcv := oconv (hv1.bytes (Nat.le_of_lt hd1.lt) hfew)
  have hb1 := grown_block (b := w.heap.size) hg1 (by rw [Below.heap_alloc _ _ _ (by simp)]; exact heap_alloc_new w _) (by omega)
  have x0 := cell_of_block (i := 0) hb1 rfl
  have x1 := cell_of_block (i := 1) hb1 rfl
  have x2 := cell_of_block (i := 2) hb1 rfl
  have f0 : w1.frozen? ⟨w.heap.size, 0, none⟩ = false := by unfold World.frozen?; simp only [hb1]; rfl
  have f1 : w1.frozen? ⟨w.heap.size, 1, none⟩ = false := by unfold World.frozen?; simp only [hb1]; rfl
  have f2 : w1.frozen? ⟨w.heap.size, 2, none⟩ = false := by unfold World.frozen?; simp only [hb1]; rfl
  have HB : Hid (Below w.heap.size w w1) := (((oalloc w _).alloc (by simp) _)).grown hg1 (by simp; omega) (fun j hj => by cases hj; omega)
  clear hb1 hv1 hd1 hg1 ht hfew
  go_wp2
  exact bodyPost_ret (v := .tuple #[obZ, .int .i64 2]) (by simp [results, Try.results10, go_sem, x0, x1, x2, obZ, obV]) rfl
    ⟨((HB.out.setCell (Nat.le_refl _) _).setCell (Nat.le_refl _) _).setCell (Nat.le_refl _) _, by rw [HP.out]⟩

/-- What is kept while the object is read: M is where it lies. -/
structure PK (w W : World) (M : Nat) (v3 v5 v7 : Value) (c : List UInt8) (xs : List Sy) (rs : List Re) (l : List UInt8) (s : Bool) : Prop where
  bel : Below w.heap.size w W
  n : W.heap[w.heap.size]? = some (.cells #[.slice none 0 0, .slice none 0 0, .slice none 0 0] 26 (0, 0))
  m : W.heap[M]? = some (.cells #[v3, v5, v7] 26 (0, 0))
  far : w.heap.size + 1 < M
  code : RB W (w.heap.size + 1) v3 c
  syms : W.ownsRow (M + 1) 38 2 v5 xs.length (scells xs)
  rels : W.ownsRow (M + 1) 41 4 v7 rs.length (rcells rs)
  dr : DR W (w.heap.size + 1) l s

theorem row_base {w : World} {b b' n size : Nat} {e : TypeId} {v : Value} {xs : List Value} (h : w.ownsRow b e size v n xs) (hb : b' ≤ b) : w.ownsRow b' e size v n xs := by
  refine ⟨h.1, ?_⟩
  rcases h.2 with h | ⟨g, cap, cur, e, hg, r⟩
  · exact .inl h
  · exact .inr ⟨g, cap, cur, e, Nat.le_trans hb hg, r⟩
theorem row_set {w : World} {base n size M o : Nat} {e : TypeId} {v x : Value} {xs : List Value} (h : w.ownsRow base e size v n xs) (hM : M < base) : (w.setCell ⟨M, o, none⟩ x).ownsRow base e size v n xs :=
  row_far h hM (ogset w M o x)
theorem PK.lt {w W : World} {M : Nat} {v3 v5 v7 : Value} {c : List UInt8} {xs : List Sy} {rs : List Re} {l : List UInt8} {s : Bool} (h : PK w W M v3 v5 v7 c xs rs l s) : M < W.heap.size := (Array.getElem?_eq_some_iff.1 h.m).1

theorem PK.sym {w W W5 : World} {M : Nat} {v3 v5 v7 : Value} {c : List UInt8} {xs : List Sy} {rs : List Re} {l l' : List UInt8} {s s' : Bool} (h : PK w W M v3 (.slice none 0 0) v7 c [] rs l s)
    (ho : W5.ownsRow W.heap.size 38 2 v5 xs.length (scells xs)) (hd : DR W5 (w.heap.size + 1) l' s') (hg : W.grownBy W5 (some (w.heap.size + 1))) : PK w (W5.setCell ⟨M, 1, none⟩ v5) M v3 v5 v7 c xs rs l' s' := by
  have hlt := h.lt
  have hfar := h.far
  have hs : ∀ b, b ≠ M → (W5.setCell ⟨M, 1, none⟩ v5).heap[b]? = W5.heap[b]? := fun b hb => Below.heap_setCell _ _ _ _ hb
  have hk : ∀ b, b < W.heap.size → b ≠ w.heap.size + 1 → W5.heap[b]? = W.heap[b]? := fun b hb hn => hg.block b hb (by simpa using hn)
  have hsz := hg.size
  refine ⟨?_, ?_, ?_, hfar, ?_, row_base (row_set ho hlt) (by omega), row_set (row_far h.rels (by omega) hg) (by omega), hd.set hfar _⟩
  · exact (h.bel.grown hg (by have := h.bel.size; omega) (fun j hj => by cases hj; omega)).setCell (by show w.heap.size ≤ M; omega) _
  · rw [hs _ (by omega), hk _ (by have := h.bel.size; omega) (by omega)]
    exact h.n
  · have hm5 : W5.heap[M]? = some (.cells #[v3, .slice none 0 0, v7] 26 (0, 0)) := by rw [hk _ hlt (by omega)]; exact h.m
    exact _root_.Go.heap_setCell_same W5 M 1 _ _ v5 hm5
  · exact h.code.keep fun b hb => by rw [hs _ (by omega), hk _ (by omega) (by omega)]
theorem PK.rel {w W W5 : World} {M : Nat} {v3 v5 v7 : Value} {c : List UInt8} {xs : List Sy} {rs : List Re} {l l' : List UInt8} {s s' : Bool} (h : PK w W M v3 v5 (.slice none 0 0) c xs [] l s)
    (ho : W5.ownsRow W.heap.size 41 4 v7 rs.length (rcells rs)) (hd : DR W5 (w.heap.size + 1) l' s') (hg : W.grownBy W5 (some (w.heap.size + 1))) : PK w (W5.setCell ⟨M, 2, none⟩ v7) M v3 v5 v7 c xs rs l' s' := by
  have hlt := h.lt
  have hfar := h.far
  have hs : ∀ b, b ≠ M → (W5.setCell ⟨M, 2, none⟩ v7).heap[b]? = W5.heap[b]? := fun b hb => Below.heap_setCell _ _ _ _ hb
  have hk : ∀ b, b < W.heap.size → b ≠ w.heap.size + 1 → W5.heap[b]? = W.heap[b]? := fun b hb hn => hg.block b hb (by simpa using hn)
  have hsz := hg.size
  refine ⟨?_, ?_, ?_, hfar, ?_, row_set (row_far h.syms (by omega) hg) (by omega), row_base (row_set ho hlt) (by omega), hd.set hfar _⟩
  · exact (h.bel.grown hg (by have := h.bel.size; omega) (fun j hj => by cases hj; omega)).setCell (by show w.heap.size ≤ M; omega) _
  · rw [hs _ (by omega), hk _ (by have := h.bel.size; omega) (by omega)]
    exact h.n
  · have hm5 : W5.heap[M]? = some (.cells #[v3, v5, .slice none 0 0] 26 (0, 0)) := by rw [hk _ hlt (by omega)]; exact h.m
    exact _root_.Go.heap_setCell_same W5 M 2 _ _ v7 hm5
  · exact h.code.keep fun b hb => by rw [hs _ (by omega), hk _ (by omega) (by omega)]

end Go.Proofs.Ytobdcnpifbnjaac
