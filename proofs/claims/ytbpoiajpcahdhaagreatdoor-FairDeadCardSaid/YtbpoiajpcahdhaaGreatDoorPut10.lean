/- Farms in memory: what lies where, and what keeps it. farm: its smallest functions. The contracts of the program's own Wrong of a message, and of what it calls. -/
import Derived.Test.YtbpoiajpcahdhaaGreatDoorPut8
import Derived.Test.YtbpoiajpcahdhaaGreatDoorPut9
namespace Go.Proofs.YtbpoiajpcahdhaaGreatDoor.Wi
open Go.RowKit

theorem fblk_lt {w : World} {b : Nat} {o : Obj} (h : w.heap[b]? = some o) : b < w.heap.size := (Array.getElem?_eq_some_iff.1 h).1
theorem fblk_cell {w : World} {b i : Nat} {c : Array Value} {t : TypeId} {f : Nat × Nat} {v : Value} (h : w.heap[b]? = some (.cells c t f)) (hv : c[i]? = some v) : w.cell? ⟨b, i, none⟩ = some v := by simp [World.cell?, h, hv]
theorem fblk_froz {w : World} {b i : Nat} {c : Array Value} {t : TypeId} (h : w.heap[b]? = some (.cells c t (0, 0))) : w.frozen? ⟨b, i, none⟩ = false := by simp [World.frozen?, h]
theorem fblk_new (w : World) (c : Array Value) (t : TypeId) : (w.alloc (.cells c t)).heap[w.heap.size]? = some (.cells c t (0, 0)) := by unfold World.alloc; simp only [Array.getElem?_push_size]
theorem fblk_set {w : World} {b i : Nat} {c : Array Value} {t : TypeId} {v : Value} (h : w.heap[b]? = some (.cells c t (0, 0))) : (w.setCell ⟨b, i, none⟩ v).heap[b]? = some (.cells (c.setIfInBounds i v) t (0, 0)) := _root_.Go.heap_setCell_same w b i c t v h

/-- What a farm's own lists lie in. -/
def Mine (t : TypeId) : Prop := t = 27 ∨ t = 40 ∨ t = 4 ∨ t = 36
/-- All else stays. -/
structure KF (w w' : World) : Prop where
  size : w.heap.size ≤ w'.heap.size
  blk : ∀ (q : Nat) (c : Array Value) (t : TypeId) (f : Nat × Nat), w.heap[q]? = some (.cells c t f) → ¬ Mine t → w'.heap[q]? = some (.cells c t f)
theorem KF.refl (w : World) : KF w w := ⟨Nat.le_refl _, fun _ _ _ _ h _ => h⟩
theorem KF.trans {a b c : World} (h : KF a b) (k : KF b c) : KF a c := ⟨Nat.le_trans h.size k.size, fun q x t f h1 h2 => k.blk q x t f (h.blk q x t f h1 h2) h2⟩
theorem KF.of {w w' : World} (h : Below w.heap.size w w') : KF w w' := ⟨h.size, fun q c t f hq _ => by rw [h.block q (fblk_lt hq)]; exact hq⟩
/-- A block of a farm's own that is written. -/
theorem KF.own {w w' : World} {g : Nat} {c : Array Value} {t : TypeId} {f : Nat × Nat} (hg : w.heap[g]? = some (.cells c t f)) (ht : Mine t) (hs : w.heap.size ≤ w'.heap.size) (ho : ∀ q, q ≠ g → q < w.heap.size → w'.heap[q]? = w.heap[q]?) : KF w w' :=
  ⟨hs, fun q c' t' f' hq hn => by
    have hne : q ≠ g := by
      intro e
      subst e
      rw [hg] at hq
      injection hq with hq
      injection hq with _ h2 _
      exact hn (h2 ▸ ht)
    rw [ho q hne (fblk_lt hq)]
    exact hq⟩
theorem KF.set {w : World} {g i : Nat} {c : Array Value} {t : TypeId} {f : Nat × Nat} (hg : w.heap[g]? = some (.cells c t f)) (ht : Mine t) (v : Value) : KF w (w.setCell ⟨g, i, none⟩ v) :=
  KF.own hg ht (by simp) (fun q hq _ => Below.heap_setCell _ _ _ _ hq)
theorem mine0 : Mine 27 := .inl rfl
theorem mine1 : Mine 40 := .inr (.inl rfl)
theorem mine2 : Mine 4 := .inr (.inr (.inl rfl))
theorem mine3 : Mine 36 := .inr (.inr (.inr rfl))

/-- Bytes that lie in a row of bytes. -/
def BK (w : World) (v : Value) (l : List UInt8) : Prop :=
  (v = .slice none 0 0 ∧ l = []) ∨ ∃ b o cap cur fz, v = .slice (some ⟨b, o, none⟩) l.length cap ∧ l.length ≤ cap ∧ w.heap[b]? = some (.cells cur 5 fz) ∧ ∀ i (h : i < l.length), cur[o + i]? = some (.int .u8 (l[i].toNat : Int))
theorem not_mine5 : ¬ Mine 5 := by unfold Mine; decide
theorem BK.keep {w w' : World} {v : Value} {l : List UInt8} (h : BK w v l) (k : KF w w') : BK w' v l := by
  rcases h with h | ⟨b, o, cap, cur, fz, h1, h2, h3, h4⟩
  · exact .inl h
  · exact .inr ⟨b, o, cap, cur, fz, h1, h2, k.blk _ _ _ _ h3 not_mine5, h4⟩
theorem BK.below {w w' : World} {v : Value} {l : List UInt8} (h : BK w v l) (k : Below w.heap.size w w') : BK w' v l := h.keep (KF.of k)
theorem BK.rb {w : World} {v : Value} {l : List UInt8} (h : BK w v l) : RB w w.heap.size v l := by
  rcases h with ⟨rfl, rfl⟩ | ⟨b, o, cap, cur, fz, rfl, h2, h3, h4⟩
  · exact ⟨none, 0, rfl, .inl ⟨rfl, rfl, rfl⟩⟩
  · exact ⟨_, cap, rfl, .inr ⟨_, rfl, h2, fun _ => ⟨b, o, rfl, fblk_lt h3, fun i hi => fblk_cell h3 (h4 i hi)⟩⟩⟩
theorem BK.slice {w : World} {v : Value} {l : List UInt8} (h : BK w v l) : ∃ ad cap, v = .slice ad l.length cap := by
  obtain ⟨ad, cap, h, _⟩ := h.rb
  exact ⟨ad, cap, h⟩
theorem BK.nil (w : World) : BK w (.slice none 0 0) [] := .inl ⟨rfl, rfl⟩
theorem Out.bk {w : World} {base : Nat} {v : Value} {l : List UInt8} (h : Out w base v l) : BK w v l := by
  rcases h.1.2 with ⟨rfl, h0⟩ | ⟨g, cap, cur, rfl, _, hg, hnc, _, hcs, ht⟩
  · exact .inl ⟨rfl, List.eq_nil_of_length_eq_zero h0⟩
  · refine .inr ⟨g, 0, cap, cur, (0, 0), rfl, hnc, hg, fun i hi => ?_⟩
    have e : (cur.toList.take (l.length * 1))[i]? = (bcells l)[i]? := by rw [ht]
    rw [List.getElem?_take_of_lt (by omega)] at e
    rw [Nat.zero_add, ← Array.getElem?_toList, e]
    simp [bcells, hi]

/-- A job's cells. -/
def jV (j : Jb) (sv ov : Value) : Array Value := #[sv, .int .i64 j.worker, .int .i64 j.turn, .int .i64 j.wait, .bool j.done, ov, .int .i64 j.err, .int .i64 j.place]
def JAt (w : World) (cur : Array Value) (P : Nat) (j : Jb) : Prop := ∃ sv ov, (∀ i, i < 8 → cur[P + i]? = (jV j sv ov)[i]?) ∧ BK w sv j.src ∧ BK w ov j.obj
def JRow (w : World) (cur : Array Value) (js : List Jb) : Prop := ∀ k (h : k < js.length), JAt w cur (k * 8) js[k]
theorem JAt.keep {w w' : World} {cur : Array Value} {P : Nat} {j : Jb} (h : JAt w cur P j) (k : KF w w') : JAt w' cur P j := by
  obtain ⟨sv, ov, h1, h2, h3⟩ := h
  exact ⟨sv, ov, h1, h2.keep k, h3.keep k⟩
theorem JRow.keep {w w' : World} {cur : Array Value} {js : List Jb} (h : JRow w cur js) (k : KF w w') : JRow w' cur js := fun i hi => (h i hi).keep k
/-- One job's cells are others. -/
theorem JRow.set {w w' : World} {cur cur' : Array Value} {js : List Jb} {k : Nat} {j : Jb} (h : JRow w cur js) (kf : KF w w') (hk : k < js.length) (ho : ∀ i, i < k * 8 ∨ k * 8 + 8 ≤ i → cur'[i]? = cur[i]?) (hj : JAt w' cur' (k * 8) j) : JRow w' cur' (js.set k j) := by
  intro i hi
  have hi2 : i < js.length := by simpa using hi
  by_cases e : i = k
  · subst e
    simpa using hj
  · obtain ⟨sv, ov, h1, h2, h3⟩ := (h i hi2).keep kf
    have e2 : (js.set k j)[i] = js[i] := by rw [List.getElem_set, if_neg (fun h => e h.symm)]
    rw [e2]
    refine ⟨sv, ov, fun m hm => ?_, h2, h3⟩
    rw [ho _ (by omega)]
    exact h1 m hm

def DRow (cur : Array Value) (ds : List Bool) : Prop := ∀ k (h : k < ds.length), cur[k]? = some (.bool ds[k])
def WRow (w : World) (xs : List Value) (l : List (List UInt8)) : Prop := xs.length = l.length ∧ ∀ k (h : k < l.length), ∃ v, xs[k]? = some v ∧ BK w v l[k]
theorem WRow.keep {w w' : World} {xs : List Value} {l : List (List UInt8)} (h : WRow w xs l) (k : KF w w') : WRow w' xs l := ⟨h.1, fun i hi => by obtain ⟨v, h1, h2⟩ := h.2 i hi; exact ⟨v, h1, h2.keep k⟩⟩
theorem WRow.app {w : World} {xs : List Value} {l : List (List UInt8)} {v : Value} {b : List UInt8} (h : WRow w xs l) (hv : BK w v b) : WRow w (xs ++ [v]) (l ++ [b]) := by
  refine ⟨by simp [h.1], fun i hi => ?_⟩
  by_cases e : i < l.length
  · obtain ⟨u, h1, h2⟩ := h.2 i e
    refine ⟨u, by rw [List.getElem?_append_left (by rw [h.1]; exact e)]; exact h1, ?_⟩
    rw [List.getElem_append_left e]
    exact h2
  · have : i = l.length := by simp at hi; omega
    subst this
    refine ⟨v, by rw [List.getElem?_append_right (by rw [h.1]; exact Nat.le_refl _), h.1]; simp, by simpa using hv⟩

/-- A farm's lists. -/
structure FR (w : World) (B gJ cJ gD cD : Nat) (wv : Value) (f : Fm) : Prop where
  jobs : ∃ cur, w.heap[gJ]? = some (.cells cur 40 (0, 0)) ∧ JRow w cur f.jobs
  dead : ∃ cur, w.heap[gD]? = some (.cells cur 4 (0, 0)) ∧ DRow cur f.dead
  way : ∃ xs, w.ownsRow B 36 1 wv f.way.length xs ∧ WRow w xs f.way
  lJ : B ≤ gJ
  lD : B ≤ gD
  cJ : f.jobs.length ≤ cJ
  cD : f.dead.length ≤ cD
def fV (f : Fm) (gJ cJ gD cD : Nat) (wv : Value) : Array Value := #[.int .i64 f.base, .slice (some ⟨gJ, 0, none⟩) f.jobs.length cJ, .slice (some ⟨gD, 0, none⟩) f.dead.length cD, wv]
/-- A farm in a box of its own. -/
structure FO (w : World) (B F gJ cJ gD cD : Nat) (wv : Value) (f : Fm) : Prop where
  rows : FR w B gJ cJ gD cD wv f
  box : w.heap[F]? = some (.cells (fV f gJ cJ gD cD wv) 27 (0, 0))
  lF : B ≤ F
theorem FR.way_shape {w : World} {B gJ cJ gD cD : Nat} {wv : Value} {f : Fm} (h : FR w B gJ cJ gD cD wv f) : ∃ ad cap, wv = .slice ad f.way.length cap := by
  obtain ⟨xs, h1, _⟩ := h.way
  rcases h1.2 with ⟨rfl, h2⟩ | ⟨g, cap, cur, rfl, _⟩
  · exact ⟨none, 0, by rw [h2]⟩
  · exact ⟨_, _, rfl⟩
theorem ownsRow_go {w w' : World} {B B' : Nat} {e : TypeId} {size : Nat} {v : Value} {n : Nat} {xs : List Value} (h : w.ownsRow B e size v n xs) (hb : Below w.heap.size w w') (hB : B' ≤ B) : w'.ownsRow B' e size v n xs := by
  refine ⟨h.1, ?_⟩
  rcases h.2 with h | ⟨g, cap, cur, h1, h2, h3, h4⟩
  · exact .inl h
  · exact .inr ⟨g, cap, cur, h1, Nat.le_trans hB h2, by rw [hb.block _ (fblk_lt h3)]; exact h3, h4⟩
theorem FR.go {w w' : World} {B B' gJ cJ gD cD : Nat} {wv : Value} {f : Fm} (h : FR w B gJ cJ gD cD wv f) (hb : Below w.heap.size w w') (hB : B' ≤ B) : FR w' B' gJ cJ gD cD wv f := by
  obtain ⟨cu, h1, h2⟩ := h.jobs
  obtain ⟨du, h3, h4⟩ := h.dead
  obtain ⟨xs, h5, h6⟩ := h.way
  exact ⟨⟨cu, by rw [hb.block _ (fblk_lt h1)]; exact h1, h2.keep (KF.of hb)⟩, ⟨du, by rw [hb.block _ (fblk_lt h3)]; exact h3, h4⟩, ⟨xs, ownsRow_go h5 hb hB, h6.keep (KF.of hb)⟩, Nat.le_trans hB h.lJ, Nat.le_trans hB h.lD, h.cJ, h.cD⟩
theorem FO.go {w w' : World} {B F gJ cJ gD cD : Nat} {wv : Value} {f : Fm} (h : FO w B F gJ cJ gD cD wv f) (hb : Below w.heap.size w w') : FO w' B F gJ cJ gD cD wv f :=
  ⟨h.rows.go hb (Nat.le_refl _), by rw [hb.block _ (fblk_lt h.box)]; exact h.box, h.lF⟩
theorem below_go {B : Nat} {w w1 w2 : World} (h : Below B w w1) (h2 : Below w1.heap.size w1 w2) (hB : B ≤ w1.heap.size) : Below B w w2 := h.trans (h2.mono hB)

/-- Behind a change of a farm's own: the farm as it is now, all below B and all that is not a farm's own as it was. -/
structure FW (w w' : World) (B F gJ cJ gD cD : Nat) (f : Fm) : Prop where
  own : ∃ wv, FO w' B F gJ cJ gD cD wv f
  bel : Below B w w'
  kf : KF w w'
theorem FW.of {w : World} {B F gJ cJ gD cD : Nat} {wv : Value} {f : Fm} (h : FO w B F gJ cJ gD cD wv f) : FW w w B F gJ cJ gD cD f := ⟨⟨wv, h⟩, Below.refl _ _, KF.refl _⟩
theorem FW.go {w w1 w2 : World} {B F gJ cJ gD cD : Nat} {f : Fm} (h : FW w w1 B F gJ cJ gD cD f) (hb : Below w1.heap.size w1 w2) (hB : B ≤ w1.heap.size) : FW w w2 B F gJ cJ gD cD f := by
  obtain ⟨wv, ho⟩ := h.own
  exact ⟨⟨wv, ho.go hb⟩, below_go h.bel hb hB, h.kf.trans (KF.of hb)⟩
/-- What lies ahead does not matter. -/
theorem FW.ahead {w0 w w1 : World} {B F gJ cJ gD cD : Nat} {f : Fm} (hb : Below B w0 w) (hk : KF w0 w) (h : FW w w1 B F gJ cJ gD cD f) : FW w0 w1 B F gJ cJ gD cD f := ⟨h.own, hb.trans h.bel, hk.trans h.kf⟩

/-- Job k is another one. -/
theorem FO.setJob {w w' : World} {B F gJ cJ gD cD : Nat} {wv : Value} {f : Fm} {cur cur' : Array Value} {k : Nat} {j : Jb} (h : FO w B F gJ cJ gD cD wv f) (hc : w.heap[gJ]? = some (.cells cur 40 (0, 0))) (hc' : w'.heap[gJ]? = some (.cells cur' 40 (0, 0))) (hs : w.heap.size ≤ w'.heap.size) (ho : ∀ q, q ≠ gJ → q < w.heap.size → w'.heap[q]? = w.heap[q]?) (hk : k < f.jobs.length) (hcc : ∀ i, i < k * 8 ∨ k * 8 + 8 ≤ i → cur'[i]? = cur[i]?) (hj : JAt w' cur' (k * 8) j) :
    FO w' B F gJ cJ gD cD wv { f with jobs := f.jobs.set k j } := by
  have kf : KF w w' := KF.own hc mine1 hs ho
  have other : ∀ {q : Nat} {c : Array Value} {t : TypeId} {z : Nat × Nat}, w.heap[q]? = some (.cells c t z) → t ≠ 40 → w'.heap[q]? = some (.cells c t z) := fun {q c t z} hq ht => by
    have hne : q ≠ gJ := by
      intro e
      subst e
      rw [hc] at hq
      injection hq with hq
      injection hq with _ h2 _
      exact ht h2.symm
    rw [ho q hne (fblk_lt hq)]
    exact hq
  obtain ⟨cu, h1, h2⟩ := h.rows.jobs
  obtain ⟨du, h3, h4⟩ := h.rows.dead
  obtain ⟨xs, h5, h6⟩ := h.rows.way
  obtain rfl : cu = cur := by rw [hc] at h1; injection h1 with h1; injection h1 with h1 _ _; exact h1.symm
  refine ⟨⟨⟨cur', hc', h2.set kf hk hcc hj⟩, ⟨du, other h3 (by decide), h4⟩, ⟨xs, ⟨h5.1, ?_⟩, h6.keep kf⟩, h.rows.lJ, h.rows.lD, by simpa using h.rows.cJ, h.rows.cD⟩, ?_, h.lF⟩
  · rcases h5.2 with h | ⟨g, cap, cc, e1, e2, e3, e4⟩
    · exact .inl h
    · exact .inr ⟨g, cap, cc, e1, e2, other e3 (by decide), e4⟩
  · have := other h.box (by decide)
    unfold fV at *
    simpa using this
/-- The way is another one. -/
theorem FO.setWay {w w' : World} {B F gJ cJ gD cD : Nat} {wv wv' : Value} {f : Fm} {xs : List Value} {l : List (List UInt8)} (h : FO w B F gJ cJ gD cD wv f) (hx : w'.ownsRow B 36 1 wv' l.length xs) (hl : WRow w' xs l) (hk : ∀ {q : Nat} {c : Array Value} {t : TypeId} {z : Nat × Nat}, w.heap[q]? = some (.cells c t z) → t ≠ 36 → t ≠ 27 → w'.heap[q]? = some (.cells c t z)) (hs : w.heap.size ≤ w'.heap.size) (hbox : w'.heap[F]? = some (.cells (fV f gJ cJ gD cD wv') 27 (0, 0))) :
    FO w' B F gJ cJ gD cD wv' { f with way := l } := by
  have kf : KF w w' := ⟨hs, fun q c t z hq hn => hk hq (fun e => hn (e ▸ mine3)) (fun e => hn (e ▸ mine0))⟩
  obtain ⟨cu, h1, h2⟩ := h.rows.jobs
  obtain ⟨du, h3, h4⟩ := h.rows.dead
  exact ⟨⟨⟨cu, hk h1 (by decide) (by decide), h2.keep kf⟩, ⟨du, hk h3 (by decide) (by decide), h4⟩, ⟨xs, hx, hl⟩, h.rows.lJ, h.rows.lD, h.rows.cJ, h.rows.cD⟩, hbox, h.lF⟩

end Go.Proofs.YtbpoiajpcahdhaaGreatDoor.Wi

namespace Go.Proofs.YtbpoiajpcahdhaaGreatDoor.Wi
open Go.RowKit

set_option maxRecDepth 100000 in
theorem open_any (j : Jb) (sa oa : Option Addr) (sl sc ol oc : Nat) (w : World) : Calls Tryz.prog 43 #[.agg (jV j (.slice sa sl sc) (.slice oa ol oc))] w fun e w' => e = .returned (.bool (!j.done)) ∧ Below w.heap.size w w' := by
  have HA : Hid (∀ o, Below w.heap.size w (w.alloc o)) := fun o => oalloc w o
  obtain ⟨src, wk, tu, wa, dn, ob, er, pl⟩ := j
  unfold jV
  simp only
  go_enter Tryz.func43, Tryz.ntmps43
  go_wp2
  go_ret
  exact ⟨rfl, HA.out _⟩

set_option maxRecDepth 100000 in
theorem held_any (j : Jb) (sa oa : Option Addr) (sl sc ol oc : Nat) (w : World) : Calls Tryz.prog 35 #[.agg (jV j (.slice sa sl sc) (.slice oa ol oc))] w fun e w' => e = .returned (.bool (heldJ j)) ∧ Below w.heap.size w w' := by
  have HA : Hid (∀ o, Below w.heap.size w (w.alloc o)) := fun o => oalloc w o
  obtain ⟨src, wk, tu, wa, dn, ob, er, pl⟩ := j
  unfold jV heldJ
  simp only
  go_enter Tryz.func35, Tryz.ntmps35
  go_wp2
  go_ret
  exact ⟨ret_bool (by simp), HA.out _⟩

/-- The eight cells of a job in a row. -/
structure JC (w : World) (g P : Nat) (j : Jb) (sv ov : Value) : Prop where
  c0 : w.cell? ⟨g, P, none⟩ = some sv
  c1 : w.cell? ⟨g, P + 1, none⟩ = some (.int .i64 j.worker)
  c2 : w.cell? ⟨g, P + 2, none⟩ = some (.int .i64 j.turn)
  c3 : w.cell? ⟨g, P + 3, none⟩ = some (.int .i64 j.wait)
  c4 : w.cell? ⟨g, P + 4, none⟩ = some (.bool j.done)
  c5 : w.cell? ⟨g, P + 5, none⟩ = some ov
  c6 : w.cell? ⟨g, P + 6, none⟩ = some (.int .i64 j.err)
  c7 : w.cell? ⟨g, P + 7, none⟩ = some (.int .i64 j.place)
theorem jc_of {w : World} {g P : Nat} {cur : Array Value} {t : TypeId} {z : Nat × Nat} {j : Jb} {sv ov : Value} (hg : w.heap[g]? = some (.cells cur t z)) (h : ∀ i, i < 8 → cur[P + i]? = (jV j sv ov)[i]?) : JC w g P j sv ov :=
  ⟨fblk_cell hg (h 0 (by decide)), fblk_cell hg (h 1 (by decide)), fblk_cell hg (h 2 (by decide)), fblk_cell hg (h 3 (by decide)), fblk_cell hg (h 4 (by decide)), fblk_cell hg (h 5 (by decide)), fblk_cell hg (h 6 (by decide)), fblk_cell hg (h 7 (by decide))⟩

/-- Cell i of a job's is another one. -/
theorem jv_set {cur : Array Value} {P i : Nat} {l : Array Value} (v : Value) (hl : l.size = 8) (hi : i < 8) (h : ∀ m, m < 8 → cur[P + m]? = l[m]?) : (∀ m, m < 8 → (cur.setIfInBounds (P + i) v)[P + m]? = (l.setIfInBounds i v)[m]?) ∧ ∀ m, m < P ∨ P + 8 ≤ m → (cur.setIfInBounds (P + i) v)[m]? = cur[m]? := by
  refine ⟨fun m hm => ?_, fun m hm => Array.getElem?_setIfInBounds_ne (by omega)⟩
  by_cases e : i = m
  · subst e
    have h1 := h i hi
    have h2 : l[i]? = some l[i] := Array.getElem?_eq_getElem (by omega)
    rw [h2] at h1
    have hb : P + i < cur.size := (Array.getElem?_eq_some_iff.1 h1).1
    rw [Array.getElem?_setIfInBounds_self_of_lt hb, Array.getElem?_setIfInBounds_self_of_lt (by omega)]
  · rw [Array.getElem?_setIfInBounds_ne (by omega), Array.getElem?_setIfInBounds_ne e]
    exact h m hm

/-- One block of the farm's own is another one; all else as it was. -/
structure SG (w w' : World) (g : Nat) : Prop where
  os : w'.os = w.os
  tape : w'.tape = w.tape
  output : w'.output = w.output
  size : w'.heap.size = w.heap.size
  blk : ∀ q, q ≠ g → w'.heap[q]? = w.heap[q]?
theorem SG.refl (w : World) (g : Nat) : SG w w g := ⟨rfl, rfl, rfl, rfl, fun _ _ => rfl⟩
theorem SG.set {w w' : World} {g : Nat} (h : SG w w' g) (i : Nat) (v : Value) : SG w (w'.setCell ⟨g, i, none⟩ v) g :=
  ⟨h.os, h.tape, h.output, by simpa using h.size, fun q hq => (Below.heap_setCell _ _ _ _ hq).trans (h.blk q hq)⟩
theorem SG.below {w w' : World} {g B : Nat} (h : SG w w' g) (hB : B ≤ g) : Below B w w' := ⟨h.os, h.tape, h.output, Nat.le_of_eq h.size.symm, fun k hk => h.blk k (by omega)⟩
/-- Job cells in row g, written and not. -/
structure JW (w w' : World) (g P : Nat) (cur : Array Value) (l : Array Value) : Prop where
  sg : SG w w' g
  row : ∃ cur', w'.heap[g]? = some (.cells cur' 40 (0, 0)) ∧ (∀ i, i < 8 → cur'[P + i]? = l[i]?) ∧ ∀ m, m < P ∨ P + 8 ≤ m → cur'[m]? = cur[m]?
theorem JW.start {w : World} {g P : Nat} {cur l : Array Value} (hg : w.heap[g]? = some (.cells cur 40 (0, 0))) (h : ∀ i, i < 8 → cur[P + i]? = l[i]?) : JW w w g P cur l := ⟨SG.refl _ _, cur, hg, h, fun _ _ => rfl⟩
theorem JW.set {w w' : World} {g P : Nat} {cur l : Array Value} (h : JW w w' g P cur l) (i : Nat) (hi : i < 8) (hl : l.size = 8) (v : Value) : JW w (w'.setCell ⟨g, P + i, none⟩ v) g P cur (l.setIfInBounds i v) := by
  obtain ⟨cur', h1, h2, h3⟩ := h.row
  have h4 := jv_set v hl hi h2
  exact ⟨h.sg.set _ _, _, fblk_set h1, h4.1, fun m hm => (h4.2 m hm).trans (h3 m hm)⟩

set_option maxHeartbeats 2000000 in
set_option maxRecDepth 100000 in
/-- A job waits: in its row. -/
theorem wait_any (j : Jb) (g P : Nat) (cur : Array Value) (sa oa : Option Addr) (sl sc ol oc : Nat) (w : World) (hg : w.heap[g]? = some (.cells cur 40 (0, 0))) (h : ∀ i, i < 8 → cur[P + i]? = (jV j (.slice sa sl sc) (.slice oa ol oc))[i]?) (h0 : 0 ≤ j.wait) (h1 : j.wait ≤ 4) :
    Calls Tryz.prog 36 #[.pointer (some ⟨g, P, none⟩)] w fun e w' => e = .returned (.tuple #[]) ∧ JW w w' g P cur (jV (waitJ j) (.slice sa sl sc) (.slice oa ol oc)) := by
  have hc := jc_of hg h
  have hz := fblk_lt hg
  have hf : ∀ i, w.frozen? ⟨g, i, none⟩ = false := fun i => fblk_froz hg
  have HJ := Lib.hid (JW.start hg h)
  clear h
  obtain ⟨_, c1, _, c3, _, _, _, _⟩ := hc
  obtain ⟨src, wk, tu, wa, dn, ob, er, pl⟩ := j
  unfold waitJ jV at *
  simp only at *
  by_cases hw : 4 ≤ wa + 1
  · simp only [if_pos hw]
    go_enter Tryz.func36, Tryz.ntmps36
    go_wp2
    exact bodyPost_end (v := .tuple #[]) (by simp [results, Tryz.results36, go_sem]) rfl ⟨rfl, ((HJ.out.set 3 (by decide) rfl _).set 1 (by decide) rfl _).set 3 (by decide) rfl _⟩
  · simp only [if_neg hw]
    go_enter Tryz.func36, Tryz.ntmps36
    go_wp2
    exact bodyPost_end (v := .tuple #[]) (by simp [results, Tryz.results36, go_sem]) rfl ⟨rfl, HJ.out.set 3 (by decide) rfl _⟩

set_option maxHeartbeats 2000000 in
set_option maxRecDepth 100000 in
theorem tick1_any (j : Jb) (k : Int) (g P : Nat) (cur : Array Value) (sa oa : Option Addr) (sl sc ol oc : Nat) (w : World) (hg : w.heap[g]? = some (.cells cur 40 (0, 0))) (h : ∀ i, i < 8 → cur[P + i]? = (jV j (.slice sa sl sc) (.slice oa ol oc))[i]?) (h0 : 0 ≤ j.wait) (h1 : j.wait ≤ 4) :
    Calls Tryz.prog 34 #[.int .i64 k, .pointer (some ⟨g, P, none⟩)] w fun e w' => e = .returned (.tuple #[]) ∧ ∃ w1, Below w.heap.size w w1 ∧ JW w1 w' g P cur (jV (if heldJ j = true then waitJ j else j) (.slice sa sl sc) (.slice oa ol oc)) := by
  have HH := Lib.hid fun W => held_any j sa oa sl sc ol oc W
  have HW := Lib.hid fun W hgW => wait_any j g P cur sa oa sl sc ol oc W hgW h h0 h1
  have hc := jc_of hg h
  have hz := fblk_lt hg
  have HG := Lib.hid hg
  have HS : Hid (∀ W, W.heap[g]? = some (.cells cur 40 (0, 0)) → JW W W g P cur (jV j (.slice sa sl sc) (.slice oa ol oc))) := fun W hW => JW.start hW h
  obtain ⟨c0, c1, c2, c3, c4, c5, c6, c7⟩ := hc
  clear h hg h0 h1
  unfold jV at HH
  obtain ⟨b, hb⟩ : ∃ b, heldJ j = b := ⟨_, rfl⟩
  rw [hb] at HH ⊢
  obtain ⟨src, wk, tu, wa, dn, ob, er, pl⟩ := j
  simp only at *
  clear hb
  cases b
  all_goals
    go_enter Tryz.func34, Tryz.ntmps34
    go_wp2_with fail
    refine (HH.out _).mono ?_
    rintro e w1 ⟨rfl, hb1⟩
    have HG1 : Hid (w1.heap[g]? = some (.cells cur 40 (0, 0))) := (hb1.block g hz).trans HG.out
    have HB1 := Lib.hid hb1
    clear hb1
    go_wp2_with fail
  · exact bodyPost_end (v := .tuple #[]) (by simp [results, Tryz.results34, go_sem]) rfl ⟨rfl, w1, HB1.out, HS.out _ HG1.out⟩
  · refine (HW.out _ HG1.out).mono ?_
    rintro e w2 ⟨rfl, hj⟩
    have HJ := Lib.hid hj
    clear hj
    go_wp2_with fail
    exact bodyPost_end (v := .tuple #[]) (by simp [results, Tryz.results34, go_sem]) rfl ⟨rfl, w1, HB1.out, HJ.out⟩

end Go.Proofs.YtbpoiajpcahdhaaGreatDoor.Wi

namespace Go.Proofs.YtbpoiajpcahdhaaGreatDoor.Wi
open Go.RowKit

/-- A message as one value. -/
def msV (m : Ms) (dv : Value) : Value := .agg #[.int .i64 m.kind, .int .i64 m.worker, .int .i64 m.unit, .int .i64 m.turn, .int .i64 m.err, .int .i64 m.place, dv]
/-- A message in a box. -/
def msC (m : Ms) (dv : Value) : Array Value := #[.int .i64 m.kind, .int .i64 m.worker, .int .i64 m.unit, .int .i64 m.turn, .int .i64 m.err, .int .i64 m.place, dv]

theorem below_any (n e : Int) (w : World) : Calls Tryz.prog 54 #[.int .i64 n, .int .i64 e] w fun r w' => r = .returned (.bool (decide (0 ≤ n ∧ n < e))) ∧ w' = w := by
  by_cases h0 : 0 ≤ n
  · by_cases h1 : n < e
    · go_enter Tryz.func54, Tryz.ntmps54
      go_wp2
      go_ret
      exact ⟨ret_bool (by simp; omega), rfl⟩
    · go_enter Tryz.func54, Tryz.ntmps54
      go_wp2
      go_ret
      exact ⟨ret_bool (by simp; omega), rfl⟩
  · go_enter Tryz.func54, Tryz.ntmps54
    go_wp2
    go_ret
    exact ⟨ret_bool (by simp; omega), rfl⟩

theorem tells_any (x p : Int) (w : World) : Calls Tryz.prog 59 #[.agg #[.int .i64 x, .int .i64 p]] w fun r w' => r = .returned (.bool (decide ((0 < x ∧ x ≤ 14) ∧ 0 ≤ p ∧ p < 65536))) ∧ Below w.heap.size w w' := by
  have hB := fun W => below_any p 65536 W
  have HA : Hid (Below w.heap.size w (w.alloc (.cells #[.int .i64 x, .int .i64 p] 38))) := oalloc w _
  by_cases h0 : 0 < x
  · by_cases h1 : x ≤ 14
    · go_enter Tryz.func59, Tryz.ntmps59
      go_wp2_with (go_at_call 54; refine (hB _).mono ?_; rintro e w1 ⟨rfl, rfl⟩)
      go_ret
      exact ⟨ret_bool (by simp [h0, h1]), HA.out⟩
    · clear hB
      go_enter Tryz.func59, Tryz.ntmps59
      go_wp2
      go_ret
      exact ⟨ret_bool (by simp; omega), HA.out⟩
  · clear hB
    go_enter Tryz.func59, Tryz.ntmps59
    go_wp2
    go_ret
    exact ⟨ret_bool (by simp; omega), HA.out⟩

/-- A box of a message that is in every later world. -/
theorem msbox {w w' : World} {k wk u t x p : Int} {dv : Value} (h : Below (w.alloc (.cells #[.int .i64 k, .int .i64 wk, .int .i64 u, .int .i64 t, .int .i64 x, .int .i64 p, dv] 71)).heap.size (w.alloc (.cells #[.int .i64 k, .int .i64 wk, .int .i64 u, .int .i64 t, .int .i64 x, .int .i64 p, dv] 71)) w') :
    w'.heap[w.heap.size]? = some (.cells #[.int .i64 k, .int .i64 wk, .int .i64 u, .int .i64 t, .int .i64 x, .int .i64 p, dv] 71 (0, 0)) := by
  rw [h.block _ (by simp)]
  exact heap_alloc_new w _

set_option maxHeartbeats 2000000 in
theorem fits_any (m : Ms) (ad : Option Addr) (cap : Nat) (w : World) : Calls Tryz.prog 55 #[msV m (.slice ad m.data.length cap)] w fun r w' => r = .returned (.bool (decide (fitsM m))) ∧ Below w.heap.size w w' := by
  have hT := fun W => tells_any m.err m.place W
  have HA : Hid (∀ o, Below w.heap.size w (w.alloc o)) := fun o => oalloc w o
  have HY : Hid (fitsM m → decide (fitsM m) = true) := fun h => decide_eq_true h
  have HN : Hid (¬ fitsM m → decide (fitsM m) = false) := fun h => decide_eq_false h
  generalize decide (fitsM m) = b at *
  unfold fitsM at HY HN
  obtain ⟨k, wk, u, t, x, p, l⟩ := m
  unfold msV
  simp only at *
  by_cases h3 : k = 3
  · by_cases ht : (0 < x ∧ x ≤ 14) ∧ 0 ≤ p ∧ p < 65536
    · simp only [decide_eq_true ht] at hT
      by_cases hd : l.length = 0
      · have HE := Lib.hid (HY.out (by rw [if_pos h3]; exact ⟨ht, hd⟩))
        have hd1 : (((l.length : Nat) : Int) == 0) = true := by simpa using hd
        have h3b : (k == 3) = true := by simpa using h3
        clear ht HY HN h3 hd
        go_enter Tryz.func55, Tryz.ntmps55
        go_wp2_with (go_at_call 59; refine (hT _).mono ?_; rintro e w1 ⟨rfl, hb1⟩; have HB1 := Lib.hid (bnext (HA.out _) hb1); have hc6 : w1.cell? ⟨w.heap.size, 6, none⟩ = some (.slice ad l.length cap) := cell_of_block (msbox hb1) rfl; clear hT hb1)
        go_ret
        exact ⟨ret_bool HE.out.symm, HB1.out⟩
      · have HE := Lib.hid (HN.out (by rw [if_pos h3]; exact fun h => hd h.2))
        have hd1 : (((l.length : Nat) : Int) == 0) = false := by simpa using hd
        have h3b : (k == 3) = true := by simpa using h3
        clear ht HY HN h3 hd
        go_enter Tryz.func55, Tryz.ntmps55
        go_wp2_with (go_at_call 59; refine (hT _).mono ?_; rintro e w1 ⟨rfl, hb1⟩; have HB1 := Lib.hid (bnext (HA.out _) hb1); have hc6 : w1.cell? ⟨w.heap.size, 6, none⟩ = some (.slice ad l.length cap) := cell_of_block (msbox hb1) rfl; clear hT hb1)
        go_ret
        exact ⟨ret_bool HE.out.symm, HB1.out⟩
    · simp only [decide_eq_false ht] at hT
      have HE := Lib.hid (HN.out (by rw [if_pos h3]; exact fun h => ht h.1))
      have h3b : (k == 3) = true := by simpa using h3
      clear ht HY HN h3
      go_enter Tryz.func55, Tryz.ntmps55
      go_wp2_with (go_at_call 59; refine (hT _).mono ?_; rintro e w1 ⟨rfl, hb1⟩; have HB1 := Lib.hid (bnext (HA.out _) hb1); have hc6 : w1.cell? ⟨w.heap.size, 6, none⟩ = some (.slice ad l.length cap) := cell_of_block (msbox hb1) rfl; clear hT hb1)
      go_ret
      exact ⟨ret_bool HE.out.symm, HB1.out⟩
  · by_cases ht : x = 0
    · by_cases hp : p = 0
      · have HE := Lib.hid (HY.out (by rw [if_neg h3]; exact ⟨ht, hp⟩))
        clear HY HN hT
        go_enter Tryz.func55, Tryz.ntmps55
        go_wp2
        go_ret
        exact ⟨ret_bool HE.out.symm, HA.out _⟩
      · have HE := Lib.hid (HN.out (by rw [if_neg h3]; exact fun h => hp h.2))
        clear HY HN hT
        go_enter Tryz.func55, Tryz.ntmps55
        go_wp2
        go_ret
        exact ⟨ret_bool HE.out.symm, HA.out _⟩
    · have HE := Lib.hid (HN.out (by rw [if_neg h3]; exact fun h => ht h.1))
      clear HY HN hT
      go_enter Tryz.func55, Tryz.ntmps55
      go_wp2
      go_ret
      exact ⟨ret_bool HE.out.symm, HA.out _⟩

end Go.Proofs.YtbpoiajpcahdhaaGreatDoor.Wi
