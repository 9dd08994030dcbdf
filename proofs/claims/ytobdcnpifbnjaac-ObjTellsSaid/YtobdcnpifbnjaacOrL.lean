/- The walk of pllaw6.ObjTells: whatever the object and the bytes, it tells true. -/
import Derived.Test.YtobdcnpifbnjaacOrC
import Derived.Test.YtobdcnpifbnjaacOrQ
import Derived.Test.YtobdcnpifbnjaacOcPc
import Derived.Test.YtobdcnpifbnjaacOcSame
namespace Go.Proofs.Ytobdcnpifbnjaac
open Go.RowKit

/-- The bytes that are told of an object: none, if something is wrong. -/
def tellB (o : Ob) : List UInt8 := if wrongO nameR o = 0 then bytesO o else []
theorem bytes_any (o : Ob) (cv sv rv : Value) (w : World) (h : ObAt w cv sv rv o) (hnl : ∀ s, s ∈ o.syms → s.name.length ≤ maxLen) :
    Calls Try.prog 4 #[obV cv sv rv] w fun e w' => ∃ v, e = .returned (.tuple #[v, .int .i64 (wrongO nameR o)]) ∧ Below w.heap.size w w' ∧ OBytes w' v (tellB o) := by
  by_cases hw : wrongO nameR o = 0
  · refine (bytes_good o cv sv rv w h.1 h.2.1 h.2.2 hnl hw).mono ?_
    rintro e w' ⟨v, rfl, h1, h2⟩
    refine ⟨v, by rw [hw], h1, ?_⟩
    unfold tellB
    rw [if_pos hw]
    exact h2.bytes (by have := bytesO_few hw; unfold maxLen; omega)
  · refine (bytes_bad o cv sv rv w h.1 h.2.1 h.2.2 hnl hw).mono ?_
    rintro e w' ⟨rfl, h1⟩
    refine ⟨_, rfl, h1, ?_⟩
    unfold tellB
    rw [if_neg hw]
    exact ⟨none, 0, rfl, Nat.zero_le _, fun h0 => absurd h0 (by simp)⟩
theorem rbytes_any (o : Ob) (cv sv rv : Value) (w : World) (h : ObAt w cv sv rv o) :
    Calls Try.prog 5 #[obV cv sv rv] w fun e w' => ∃ v, e = .returned (.tuple #[v, .int .i64 (wrongO nameR o)]) ∧ Below w.heap.size w w' ∧ OBytes w' v (tellB o) := by
  by_cases hw : wrongO nameR o = 0
  · refine (rbytes_good o cv sv rv w h.1 h.2.1 h.2.2 hw).mono ?_
    rintro e w' ⟨v, rfl, h1, h2⟩
    refine ⟨v, by rw [hw], h1, ?_⟩
    unfold tellB
    rw [if_pos hw]
    exact h2.bytes (by have := bytesO_few hw; unfold maxLen; omega)
  · refine (rbytes_bad o cv sv rv w h.1 h.2.1 h.2.2 hw).mono ?_
    rintro e w' ⟨rfl, h1⟩
    refine ⟨_, rfl, h1, ?_⟩
    unfold tellB
    rw [if_neg hw]
    exact ⟨none, 0, rfl, Nat.zero_le _, fun h0 => absurd h0 (by simp)⟩

/-- What Parse tells, as one object and one error. -/
def tellO (l : List UInt8) : Ob := match parseO nameR l with
  | .error _ => ⟨[], [], []⟩
  | .ok o => o
def tellE (l : List UInt8) : Int := match parseO nameR l with
  | .error y => y
  | .ok _ => 0
theorem parse_tells {w w' : World} {l : List UInt8} {e : Ending} (h : ParseEnd w l e w') : Below w.heap.size w w' ∧ ∃ ca cc sa sc ra rc, e = .returned (.tuple #[.agg #[.slice ca (tellO l).code.length cc, .slice sa (tellO l).syms.length sc, .slice ra (tellO l).rels.length rc], .int .i64 (tellE l)]) ∧ ObAt w' (.slice ca (tellO l).code.length cc) (.slice sa (tellO l).syms.length sc) (.slice ra (tellO l).rels.length rc) (tellO l) := by
  obtain ⟨hb, h⟩ := h
  refine ⟨hb, ?_⟩
  unfold tellO tellE
  cases hp : parseO nameR l with
  | error y =>
    rw [hp] at h
    refine ⟨none, 0, none, 0, none, 0, h, ⟨none, 0, rfl, Nat.zero_le _, fun h0 => absurd h0 (by simp)⟩, ⟨none, 0, rfl, ⟨Nat.zero_le _, Nat.zero_le _⟩, fun h0 => absurd h0 (by simp)⟩, ⟨none, 0, rfl, Nat.zero_le _, fun h0 => absurd h0 (by simp)⟩⟩
  | ok o =>
    rw [hp] at h
    obtain ⟨c, s, r, rfl, h1, h2, h3⟩ := h
    obtain ⟨ca, cc, rfl, _⟩ := id h1
    obtain ⟨sa, sc, rfl, _⟩ := id h2
    obtain ⟨ra, rc, rfl, _⟩ := id h3
    exact ⟨ca, cc, sa, sc, ra, rc, rfl, h1, h2, h3⟩

set_option maxHeartbeats 8000000 in
set_option maxRecDepth 100000 in
theorem tells_any (o : Ob) (l : List UInt8) (cv sv rv bv : Value) (w : World) (hob : ObAt w cv sv rv o) (hbv : RB w w.heap.size bv l) (hl : l.length ≤ 140737488355328) (hnl : ∀ s, s ∈ o.syms → s.name.length ≤ maxLen) (h1 : o.code.length ≤ 140737488355328) (h2 : o.syms.length * 24 ≤ 140737488355328) (h3 : o.rels.length * 40 ≤ 140737488355328) :
    Calls Try.prog 3 #[obV cv sv rv, bv] w fun e w' => e = .returned (.bool true) ∧ Below w.heap.size w w' := by
  have KB := Lib.hid (fun W (h : Below w.heap.size w W) => bytes_any o cv sv rv W (hob.below h (Nat.le_refl _)) hnl)
  have KRB := Lib.hid (fun W (h : Below w.heap.size w W) => rbytes_any o cv sv rv W (hob.below h (Nat.le_refl _)))
  have KW := Lib.hid (fun W (h : Below w.heap.size w W) => wrong_any o cv sv rv W (hob.1.below h (Nat.le_refl _)) (hob.2.1.below h (Nat.le_refl _)) (hob.2.2.below h (Nat.le_refl _)) hnl)
  have KRW := Lib.hid (fun W (h : Below w.heap.size w W) => rwrong_any o cv sv rv W (hob.1.below h (Nat.le_refl _)) (hob.2.1.below h (Nat.le_refl _)) (hob.2.2.below h (Nat.le_refl _)))
  have KO := Lib.hid (fun W (h : Below w.heap.size w W) => own_far o cv sv rv W (hob.1.below h (Nat.le_refl _)) (hob.2.1.below h (Nat.le_refl _)) (hob.2.2.below h (Nat.le_refl _)) h1 h2 h3)
  have KP := Lib.hid (fun W (h : Below w.heap.size w W) => parse_any l bv W ((hbv.keep fun b hb => h.block b hb).up h.size) hl)
  have KRP := Lib.hid (fun W (h : Below w.heap.size w W) => rparse_any l bv W ((hbv.keep fun b hb => h.block b hb).up h.size) hl)
  have HOB := Lib.hid hob
  obtain ⟨cad, ccap, rfl, z1⟩ := id hob.1
  obtain ⟨sad, scap, rfl, z2⟩ := id hob.2.1
  obtain ⟨rad, rcap, rfl, z3⟩ := id hob.2.2
  clear z1 z2 z3 hob hbv hl hnl h1 h2 h3
  have HX0 := Lib.hid (boxed_new w (.slice cad o.code.length ccap) (.slice sad o.syms.length scap) (.slice rad o.rels.length rcap))
  have HB0 := Lib.hid (oalloc w (.cells #[.slice cad o.code.length ccap, .slice sad o.syms.length scap, .slice rad o.rels.length rcap] 26))
  unfold obV at *
  go_enter Try.func3, Try.ntmps3
  go_wp2_with fail
  refine (KB.out _ HB0.out).mono ?_
  rintro e w1 ⟨x, rfl, hb1, hx1⟩
  have HB1 := Lib.hid (bnext HB0.out hb1)
  have HX1 := Lib.hid (HX0.out.below hb1 (Nat.le_refl _))
  have HXX1 := Lib.hid hx1
  obtain ⟨x0, x1, x2⟩ := HX1.out.cells
  clear hb1 hx1 HB0 HX0 KB
  go_wp2_with fail
  refine (KRB.out _ HB1.out).mono ?_
  rintro e w2 ⟨y, rfl, hb2, hy2⟩
  have HB2 := Lib.hid (bnext HB1.out hb2)
  have HX2 := Lib.hid (HX1.out.below hb2 (Nat.le_refl _))
  have HXX2 := Lib.hid (HXX1.out.below hb2 (Nat.le_refl _))
  have HYY2 := Lib.hid hy2
  clear hb2 hy2 HB1 HX1 HXX1 KRB x0 x1 x2
  generalize wrongO nameR o = er at *
  generalize tellB o = tl at *
  go_wp2_with fail
  refine wp_region_noPanic ?_
  refine wp_region_held_drew (S := fun W => Below w2.heap.size w2 W) (by kernel_rfl) (Below.refl _ _).drew (fun hHeld => ?_)
  refine take_at 0 21 (v := ?_) rfl rfl (by kernel_rfl) (by kernel_rfl) (by kernel_rfl) (fun _ _ _ h => h) rfl ?_ hHeld ?_
  rotate_left
  · intro w hSw
    go_simp
    try with_reducible rfl
  simp only [List.setIfInBounds_toArray, List.set_cons_zero, List.set_cons_succ]
  refine take_at 1 22 (v := ?_) rfl rfl (by kernel_rfl) (by kernel_rfl) (by kernel_rfl) (fun _ _ _ h => h) rfl ?_ hHeld ?_
  rotate_left
  · intro w hSw
    go_simp
    try with_reducible rfl
  simp only [List.setIfInBounds_toArray, List.set_cons_zero, List.set_cons_succ]
  refine take_at 2 23 (v := ?_) rfl rfl (by kernel_rfl) (by kernel_rfl) (by kernel_rfl) (fun _ _ _ h => h) rfl ?_ hHeld ?_
  rotate_left
  · intro w hSw
    go_simp
    try with_reducible rfl
  simp only [List.setIfInBounds_toArray, List.set_cons_zero, List.set_cons_succ]
  refine take_at 3 24 (v := ?_) rfl rfl (by kernel_rfl) (by kernel_rfl) (by kernel_rfl) (fun _ _ _ h => h) rfl ?_ hHeld ?_
  rotate_left
  · intro w hSw
    go_simp
    try with_reducible rfl
  simp only [List.setIfInBounds_toArray, List.set_cons_zero, List.set_cons_succ]
  refine take_at 4 25 (v := ?_) rfl rfl (by kernel_rfl) (by kernel_rfl) (by kernel_rfl) (fun _ _ _ h => h) rfl ?_ hHeld ?_
  rotate_left
  · intro w hSw
    go_simp
    try with_reducible rfl
  simp only [List.setIfInBounds_toArray, List.set_cons_zero, List.set_cons_succ]
  refine take_at 5 26 (v := ?_) rfl rfl (by kernel_rfl) (by kernel_rfl) (by kernel_rfl) (fun _ _ _ h => h) rfl ?_ hHeld ?_
  rotate_left
  · intro w hSw
    have hc := oconv (HXX2.out.below hSw (Nat.le_refl _))
    go_simp
    try with_reducible rfl
  simp only [List.setIfInBounds_toArray, List.set_cons_zero, List.set_cons_succ]
  refine take_at 6 27 (v := ?_) rfl rfl (by kernel_rfl) (by kernel_rfl) (by kernel_rfl) (fun _ _ _ h => h) rfl ?_ hHeld ?_
  rotate_left
  · intro w hSw
    go_simp
    try with_reducible rfl
  simp only [List.setIfInBounds_toArray, List.set_cons_zero, List.set_cons_succ]
  refine take_at 7 28 (v := ?_) rfl rfl (by kernel_rfl) (by kernel_rfl) (by kernel_rfl) (fun _ _ _ h => h) rfl ?_ hHeld ?_
  rotate_left
  · intro w hSw
    have hc := oconv (HYY2.out.below hSw (Nat.le_refl _))
    go_simp
    try with_reducible rfl
  simp only [List.setIfInBounds_toArray, List.set_cons_zero, List.set_cons_succ]
  refine take_at 8 29 (v := ?_) rfl rfl (by kernel_rfl) (by kernel_rfl) (by kernel_rfl) (fun _ _ _ h => h) rfl ?_ hHeld ?_
  rotate_left
  · intro w hSw
    go_simp
    try with_reducible rfl
  simp only [List.setIfInBounds_toArray, List.set_cons_zero, List.set_cons_succ]
  refine take_at 9 30 (v := ?_) rfl rfl (by kernel_rfl) (by kernel_rfl) (by kernel_rfl) (fun _ _ _ h => h) rfl ?_ hHeld ?_
  rotate_left
  · intro w hSw
    go_simp
    try with_reducible rfl
  simp only [List.setIfInBounds_toArray, List.set_cons_zero, List.set_cons_succ]
  refine take_at 10 31 (v := ?_) rfl rfl (by kernel_rfl) (by kernel_rfl) (by kernel_rfl) (fun _ _ _ h => h) rfl ?_ hHeld ?_
  rotate_left
  · intro w hSw
    go_simp
    try with_reducible rfl
  simp only [List.setIfInBounds_toArray, List.set_cons_zero, List.set_cons_succ]
  refine take_at 11 32 (v := ?_) rfl rfl (by kernel_rfl) (by kernel_rfl) (by kernel_rfl) (fun _ _ _ h => h) rfl ?_ hHeld ?_
  rotate_left
  · intro w hSw
    obtain ⟨x0, x1, x2⟩ := (HX2.out.below hSw (Nat.le_refl _)).cells
    go_simp
    try with_reducible rfl
  simp only [List.setIfInBounds_toArray, List.set_cons_zero, List.set_cons_succ]
  refine take_at 13 34 (v := ?_) rfl rfl (by kernel_rfl) (by kernel_rfl) (by kernel_rfl) (fun _ _ _ h => h) rfl ?_ hHeld ?_
  rotate_left
  · intro w hSw
    obtain ⟨x0, x1, x2⟩ := (HX2.out.below hSw (Nat.le_refl _)).cells
    go_simp
    try with_reducible rfl
  simp only [List.setIfInBounds_toArray, List.set_cons_zero, List.set_cons_succ]
  refine wpAnyH_ready (rs := [12]) (by kernel_rfl) (by simp) ?_
  refine AllReadyH.cons rfl (fun K hK => ?_) AllReadyH.nil
  go_simp
  refine (KW.out _ (HB2.out.trans (hHeld.mono HB2.out.size))).mono ?_
  rintro e w3 ⟨rfl, hb3⟩
  have hs3 : Below w2.heap.size w2 w3 := bnext hHeld hb3
  refine hK.out _ _ hs3 (fun hHeld => ?_)
  clear hK K hb3
  refine wpAnyH_ready (rs := [14]) (by kernel_rfl) (by simp) ?_
  refine AllReadyH.cons rfl (fun K hK => ?_) AllReadyH.nil
  go_simp
  refine (KRW.out _ (HB2.out.trans (hHeld.mono HB2.out.size))).mono ?_
  rintro e w4 ⟨rfl, hb4⟩
  have hs4 : Below w2.heap.size w2 w4 := bnext hHeld hb4
  refine hK.out _ _ hs4 (fun hHeld => ?_)
  clear hK K hb4 hs3
  refine take_at 15 36 (v := ?_) rfl rfl (by kernel_rfl) (by kernel_rfl) (by kernel_rfl) (fun _ _ _ h => h) rfl ?_ hHeld ?_
  rotate_left
  · intro w hSw
    go_simp
    try with_reducible rfl
  simp only [List.setIfInBounds_toArray, List.set_cons_zero, List.set_cons_succ]
  refine take_at 16 37 (v := ?_) rfl rfl (by kernel_rfl) (by kernel_rfl) (by kernel_rfl) (fun _ _ _ h => h) rfl ?_ hHeld ?_
  rotate_left
  · intro w hSw
    go_simp
    try with_reducible rfl
  simp only [List.setIfInBounds_toArray, List.set_cons_zero, List.set_cons_succ]
  refine take_at 17 38 (v := ?_) rfl rfl (by kernel_rfl) (by kernel_rfl) (by kernel_rfl) (fun _ _ _ h => h) rfl ?_ hHeld ?_
  rotate_left
  · intro w hSw
    go_simp
    try with_reducible rfl
  simp only [List.setIfInBounds_toArray, List.set_cons_zero, List.set_cons_succ]
  refine take_at 18 39 (v := ?_) rfl rfl (by kernel_rfl) (by kernel_rfl) (by kernel_rfl) (fun _ _ _ h => h) rfl ?_ hHeld ?_
  rotate_left
  · intro w hSw
    obtain ⟨x0, x1, x2⟩ := (HX2.out.below hSw (Nat.le_refl _)).cells
    go_simp
    try with_reducible rfl
  simp only [List.setIfInBounds_toArray, List.set_cons_zero, List.set_cons_succ]
  refine take_at 20 41 (v := ?_) rfl rfl (by kernel_rfl) (by kernel_rfl) (by kernel_rfl) (fun _ _ _ h => h) rfl ?_ hHeld ?_
  rotate_left
  · intro w hSw
    obtain ⟨x0, x1, x2⟩ := (HX2.out.below hSw (Nat.le_refl _)).cells
    go_simp
    try with_reducible rfl
  simp only [List.setIfInBounds_toArray, List.set_cons_zero, List.set_cons_succ]
  refine wpAnyH_ready (rs := [19]) (by kernel_rfl) (by simp) ?_
  refine AllReadyH.cons rfl (fun K hK => ?_) AllReadyH.nil
  go_simp
  refine (KO.out _ (HB2.out.trans (hHeld.mono HB2.out.size))).mono ?_
  rintro e w5 ⟨g1, g2, g3, rfl, hb5, HO5⟩
  have hs5 : Below w2.heap.size w2 w5 := bnext hHeld hb5
  have HS5 := Lib.hid (HO5.out w5 ⟨Nat.le_refl _, fun _ _ _ => rfl⟩)
  have HT5 := Lib.hid (HOB.out.below (HB2.out.trans (hs5.mono HB2.out.size)) (Nat.le_refl _))
  refine hK.out _ _ hs5 (fun hHeld => ?_)
  clear hK K hb5 hs4 HO5
  refine wpAnyH_ready (rs := [21]) (by kernel_rfl) (by simp) ?_
  refine AllReadyH.cons rfl (fun K hK => ?_) AllReadyH.nil
  go_simp
  refine (same_any o _ _ _ _ _ _ w5 HS5.out.1 HS5.out.2.1 HS5.out.2.2 HT5.out.1 HT5.out.2.1 HT5.out.2.2).mono ?_
  rintro e w6 ⟨rfl, hb6⟩
  have hs6 : Below w2.heap.size w2 w6 := bnext hHeld hb6
  refine hK.out _ _ hs6 (fun hHeld => ?_)
  clear hK K hb6 hs5 HS5 HT5
  refine take_at 22 43 (v := ?_) rfl rfl (by kernel_rfl) (by kernel_rfl) (by kernel_rfl) (fun _ _ _ h => h) rfl ?_ hHeld ?_
  rotate_left
  · intro w hSw
    go_simp
    try with_reducible rfl
  simp only [List.setIfInBounds_toArray, List.set_cons_zero, List.set_cons_succ]
  refine take_at 23 44 (v := ?_) rfl rfl (by kernel_rfl) (by kernel_rfl) (by kernel_rfl) (fun _ _ _ h => h) rfl ?_ hHeld ?_
  rotate_left
  · intro w hSw
    go_simp
    try with_reducible rfl
  simp only [List.setIfInBounds_toArray, List.set_cons_zero, List.set_cons_succ]
  refine wpAnyH_done (by kernel_rfl) ?_ _
  refine NoPanic.normal ?_
  have HB6 := Lib.hid (HB2.out.trans (hs6.mono HB2.out.size))
  clear hHeld hs6 HB2 HX2 HXX2 HYY2 KW KRW KO HOB
  go_wp2_with fail
  refine (KP.out w6 HB6.out).mono ?_
  intro e w7 hp7
  obtain ⟨hb7, ca, cc, sa, sc, ra, rc, rfl, hat7⟩ := parse_tells hp7
  have hba := bnext hb7 (oalloc w7 (.cells #[.slice ca (tellO l).code.length cc, .slice sa (tellO l).syms.length sc, .slice ra (tellO l).rels.length rc] 26))
  have HB7 := Lib.hid (HB6.out.trans (hba.mono HB6.out.size))
  have HX7 := Lib.hid (boxed_new w7 (.slice ca (tellO l).code.length cc) (.slice sa (tellO l).syms.length sc) (.slice ra (tellO l).rels.length rc))
  have HT7 := Lib.hid (hat7.below (oalloc w7 (.cells #[.slice ca (tellO l).code.length cc, .slice sa (tellO l).syms.length sc, .slice ra (tellO l).rels.length rc] 26)) (Nat.le_refl _))
  have HRP := Lib.hid (KRP.out _ HB7.out)
  clear hb7 hat7 hba hp7 HB6 KP KRP
  obtain ⟨O, hO⟩ : ∃ O, O = tellO l := ⟨_, rfl⟩
  obtain ⟨E, hE⟩ : ∃ E, E = tellE l := ⟨_, rfl⟩
  have HPT : Hid (∀ (w w' : World) (e : Ending), ParseEnd w l e w' → Below w.heap.size w w' ∧ ∃ ca cc sa sc ra rc, e = .returned (.tuple #[.agg #[.slice ca O.code.length cc, .slice sa O.syms.length sc, .slice ra O.rels.length rc], .int .i64 E]) ∧ ObAt w' (.slice ca O.code.length cc) (.slice sa O.syms.length sc) (.slice ra O.rels.length rc) O) := fun w w' e h => by rw [hO, hE]; exact parse_tells h
  rw [← hO] at HB7 HX7 HT7 HRP ⊢
  rw [← hE]
  clear hO hE
  go_wp2_with fail
  refine HRP.out.mono ?_
  intro e w8 hp8
  obtain ⟨hb8, da, dc, ta, tc, ua, uc, rfl, hat8⟩ := HPT.out _ _ _ hp8
  have HB8 := Lib.hid (HB7.out.trans ((bnext hb8 (oalloc w8 (.cells #[.slice da O.code.length dc, .slice ta O.syms.length tc, .slice ua O.rels.length uc] 26))).mono HB7.out.size))
  have HX8 := Lib.hid (HX7.out.below hb8 (Nat.le_refl _))
  have HX9 := Lib.hid (HX8.out.below (oalloc w8 (.cells #[.slice da O.code.length dc, .slice ta O.syms.length tc, .slice ua O.rels.length uc] 26)) (Nat.le_refl _))
  have HT8 := Lib.hid ((HT7.out.below hb8 (Nat.le_refl _)).below (oalloc w8 (.cells #[.slice da O.code.length dc, .slice ta O.syms.length tc, .slice ua O.rels.length uc] 26)) (Nat.le_refl _))
  have HU8 := Lib.hid (hat8.below (oalloc w8 (.cells #[.slice da O.code.length dc, .slice ta O.syms.length tc, .slice ua O.rels.length uc] 26)) (Nat.le_refl _))
  have HS8 := Lib.hid (same_any O _ _ _ _ _ _ _ HT8.out.1 HT8.out.2.1 HT8.out.2.2 HU8.out.1 HU8.out.2.1 HU8.out.2.2)
  obtain ⟨y0, y1, y2⟩ := HX8.out.cells
  have hlt8 : w7.heap.size < w8.heap.size := (Array.getElem?_eq_some_iff.1 HX8.out).1
  clear hb8 hat8 hp8 HB7 HX7 HT7 HRP HPT HX8 HX9 HT8 HU8
  go_wp2_with fail
  refine HS8.out.mono ?_
  rintro e w9 ⟨rfl, hb9⟩
  have HB9 := Lib.hid (bnext HB8.out hb9)
  clear hb9 HB8 HS8 y0 y1 y2
  go_wp2
  go_ret
  exact ⟨rfl, HB9.out⟩

end Go.Proofs.Ytobdcnpifbnjaac
