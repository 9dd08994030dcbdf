/- ExprTells answers true: the walk. -/
import Derived.Test.YtibenegbjpoclabDoorRvA
import Derived.Test.YtibenegbjpoclabDoorReH
namespace Go.Proofs.YtibenegbjpoclabDoor
open Go.RowKit

theorem reval_kr (w0 : World) (p : Nat → Prop) (qv : Value) (equs : List (List UInt8 × Int)) (hQ : QReads w0 qv equs) {kv : Value} {ks : List Ex} (h : KR w0 p kv ks) : REvalOK w0 qv equs kv ks := by
  induction h with
  | mk ad cap ks vi hm hc hk ih => exact reval_loop w0 p qv equs hQ ad cap ks vi hm hc hk ih

theorem reval_any (x : Ex) (kv qv : Value) (equs : List (List UInt8 × Int)) (w : World) (p : Nat → Prop) (hQ : QReads w qv equs) (hk : KR w p kv x.kids) :
    Calls Tryd.prog 10 #[exV x kv, qv] w fun e w' => e = .returned (evalV (evalR equs x)) ∧ Below w.heap.size w w' := by
  have := reval_kr w p qv equs hQ hk x.kind x.n x.name w (Below.refl _ _)
  rw [← Ex.eta] at this
  exact this

/-- The expression, the count and the fault of an answer. -/
def ansX : Except Int (Ex × List Tok) → Ex | .ok (x, _) => x | .error _ => .mk 0 0 [] []
def ansC (ts : List Tok) : Except Int (Ex × List Tok) → Nat | .ok (_, l) => ts.length - l.length | .error _ => 0
def ansE : Except Int (Ex × List Tok) → Int | .ok _ => 0 | .error y => y

theorem parse_one {w' : World} {N : Nat} {ts : List Tok} {r : Except Int (Ex × List Tok)} {e : Ending} (h : ParseAns w' N ts r e) :
    ∃ ad cap, e = .returned (.tuple #[exV (ansX r) (.slice ad (ansX r).kids.length cap), .int .i64 (ansC ts r), .int .i64 (ansE r)]) ∧ KR w' (fun b => N ≤ b) (.slice ad (ansX r).kids.length cap) (ansX r).kids := by
  cases r with
  | error y => exact ⟨none, 0, h.1, KR.nil _ _⟩
  | ok q =>
    obtain ⟨x, l⟩ := q
    obtain ⟨kv, c', rfl, hk, rfl, h0, hle⟩ := h
    obtain ⟨ad, cap, rfl⟩ := hk.shape
    have hc : ansC ts (.ok (x, ts.drop c')) = c' := by simp [ansC]; omega
    exact ⟨ad, cap, by rw [hc]; rfl, hk⟩
theorem rparse_one {w' : World} {N : Nat} {ts : List Tok} {r : Except Int (Ex × List Tok)} {e : Ending} (h : RParseAns w' N ts r e) :
    ∃ ad cap, e = .returned (.tuple #[exV (ansX r) (.slice ad (ansX r).kids.length cap), .int .i64 (ansC ts r), .int .i64 (ansE r)]) ∧ KR w' (fun b => N ≤ b) (.slice ad (ansX r).kids.length cap) (ansX r).kids := by
  cases r with
  | error y => exact ⟨none, 0, h, KR.nil _ _⟩
  | ok q =>
    obtain ⟨x, l⟩ := q
    obtain ⟨kv, c', rfl, hk, rfl, hle⟩ := h
    obtain ⟨ad, cap, rfl⟩ := hk.shape
    have hc : ansC ts (.ok (x, ts.drop c')) = c' := by simp [ansC]; omega
    exact ⟨ad, cap, by rw [hc]; rfl, hk⟩

/-- What Eval answers, as one shape. -/
def evN : Except Int Va → List UInt8 | .ok v => v.name | .error _ => []
def evI : Except Int Va → Int | .ok v => v.n | .error _ => 0
def evE : Except Int Va → Int | .ok _ => 0 | .error y => y
theorem evalV_one (r : Except Int Va) : evalV r = .tuple #[.agg #[.string ⟨(evN r).toArray⟩, .int .i64 (evI r)], .int .i64 (evE r)] := by
  cases r <;> rfl

set_option maxHeartbeats 4000000 in
set_option maxRecDepth 100000 in
theorem tells_any (x : Ex) (tv kv qv : Value) (ts : List Tok) (equs : List (List UInt8 × Int)) (w : World) (p : Nat → Prop) (hL : KLaid w) (hT : TReads w tv ts) (hQ : QReads w qv equs) (hk : KR w p kv x.kids) :
    Calls Tryd.prog 3 #[tv, exV x kv, qv] w fun e w' => e = .returned (.bool true) ∧ Below w.heap.size w w' := by
  obtain ⟨kad, kcap, hkv⟩ := hk.shape
  obtain ⟨qad, qcap, hqv⟩ : ∃ qad qcap, qv = .slice qad equs.length qcap := by obtain ⟨a, b, e, _⟩ := hQ; exact ⟨a, b, e⟩
  obtain ⟨tad, tcap, htv⟩ : ∃ qad qcap, tv = .slice qad ts.length qcap := by obtain ⟨a, b, e, _⟩ := hT; exact ⟨a, b, e⟩
  obtain ⟨kind, n, nm, ks⟩ := x
  have hK : KR w p kv ks := hk
  subst hkv hqv htv
  simp only [exV, Ex.kind, Ex.n, Ex.name, Ex.kids] at *
  clear hk
  obtain ⟨w0, hw0⟩ : ∃ w0, w0 = w.alloc (.cells #[.int .i64 kind, .int .i64 n, .string ⟨nm.toArray⟩, .slice kad ks.length kcap] 25) := ⟨_, rfl⟩
  have hb0 : Below w.heap.size w w0 := by rw [hw0]; exact (Below.refl _ _).alloc (Nat.le_refl _) _
  have hs0 : w0.heap.size = w.heap.size + 1 := by rw [hw0]; simp
  have hv0 : Var4 w0 w.heap.size (.int .i64 kind) (.int .i64 n) (.string ⟨nm.toArray⟩) (.slice kad ks.length kcap) := by rw [hw0]; exact var4_new w _ _ _ _ _
  have hz0 := hL.sz
  have hL0 : KLaid w0 := hL.below hb0 hz0
  have hT0 := hT.below hb0 (Nat.le_refl _)
  have hQ0 := hQ.below hb0 (Nat.le_refl _)
  have hK0 := hK.under hb0 (Nat.le_refl _)
  have HB0 : Hid (Below w.heap.size w w0) := hb0
  clear hL hT hQ hK hb0
  go_enter Tryd.func3, Tryd.ntmps3
  go_wp2_with fail
  rw [← hw0]
  clear hw0
  refine (parse_any _ ts w0 hT0 hL0).mono ?_
  rintro e w1 ⟨⟨r, hr, ha⟩, hb1⟩
  obtain ⟨ad1, cap1, rfl, hk1⟩ := parse_one ha
  clear ha
  obtain ⟨w2, hw2⟩ : ∃ w2, w2 = w1.alloc (.cells #[.int .i64 (ansX r).kind, .int .i64 (ansX r).n, .string ⟨(ansX r).name.toArray⟩, .slice ad1 (ansX r).kids.length cap1] 25) := ⟨_, rfl⟩
  have hb2 : Below w1.heap.size w1 w2 := by rw [hw2]; exact (Below.refl _ _).alloc (Nat.le_refl _) _
  have hs2 : w2.heap.size = w1.heap.size + 1 := by rw [hw2]; simp
  have hv2 : Var4 w2 w1.heap.size (.int .i64 (ansX r).kind) (.int .i64 (ansX r).n) (.string ⟨(ansX r).name.toArray⟩) (.slice ad1 (ansX r).kids.length cap1) := by rw [hw2]; exact var4_new w1 _ _ _ _ _
  have h01 := hb1.size
  have hB2 : Below w0.heap.size w0 w2 := hb1.trans (hb2.mono h01)
  have hT2 := hT0.below hB2 (Nat.le_refl _)
  have hk2 := hk1.under hb2 (Nat.le_refl _)
  have HB2 : Hid (Below w0.heap.size w0 w2) := hB2
  have HR : Hid (Parses ts r) := hr
  clear hb1 hb2 hB2 hk1 hr
  simp only [exV]
  go_wp2_with fail
  rw [← hw2]
  clear hw2
  refine (rparse_any _ ts w2 hT2).mono ?_
  rintro e w3 ⟨⟨r', hr', ha'⟩, hb3⟩
  have he : r' = r := Parses.same hr' HR.out
  subst he
  obtain ⟨ad3, cap3, rfl, hk3⟩ := rparse_one ha'
  clear ha' hr' HR hT0 hT2
  generalize ansX r' = X at *
  obtain ⟨w4, hw4⟩ : ∃ w4, w4 = w3.alloc (.cells #[.int .i64 X.kind, .int .i64 X.n, .string ⟨X.name.toArray⟩, .slice ad3 X.kids.length cap3] 25) := ⟨_, rfl⟩
  have hb4 : Below w3.heap.size w3 w4 := by rw [hw4]; exact (Below.refl _ _).alloc (Nat.le_refl _) _
  have hs4 : w4.heap.size = w3.heap.size + 1 := by rw [hw4]; simp
  have hv4 : Var4 w4 w3.heap.size (.int .i64 X.kind) (.int .i64 X.n) (.string ⟨X.name.toArray⟩) (.slice ad3 X.kids.length cap3) := by rw [hw4]; exact var4_new w3 _ _ _ _ _
  have h23 := hb3.size
  have hB4 : Below w2.heap.size w2 w4 := hb3.trans (hb4.mono h23)
  have hv24 := hv2.keep (hB4.block _ (by omega))
  have hk24 := hk2.under hB4 (Nat.le_refl _)
  have hk4 := hk3.under hb4 (Nat.le_refl _)
  have HB4 : Hid (Below w0.heap.size w0 w4) := HB2.out.trans (hB4.mono (by omega))
  clear hb3 hb4 hB4 hk3 hk2 hv2 HB2
  obtain ⟨⟨x0, x1, x2, x3⟩, _⟩ := hv24
  obtain ⟨⟨y0, y1, y2, y3⟩, _⟩ := hv4
  have hsame := same_any X _ _ w4 _ _ hk24 hk4
  simp only [exV] at hsame ⊢
  clear hk24 hk4
  generalize ansC ts r' = C
  generalize ansE r' = E
  rw [hw4] at x0 x1 x2 x3 y0 y1 y2 y3 hsame
  go_wp2_with fail
  rw [← hw4] at hsame ⊢
  clear hw4 x0 x1 x2 x3 y0 y1 y2 y3
  refine hsame.mono ?_
  rintro e w5 ⟨rfl, hb5⟩
  have h45 := hb5.size
  have hB5 : Below w0.heap.size w0 w5 := HB4.out.trans (hb5.mono (by omega))
  have hL5 := hL0.below hB5 (by omega)
  have hQ5 := hQ0.below hB5 (Nat.le_refl _)
  have hK5 := hK0.under hB5 (Nat.le_refl _)
  obtain ⟨⟨x0, x1, x2, x3⟩, _⟩ := hv0.keep (hB5.block _ (by omega))
  have hev := eval_any (.mk kind n nm ks) _ _ equs w5 p hL5 hQ5 hK5
  rw [evalV_one] at hev
  have HB5 : Hid (Below w0.heap.size w0 w5) := hB5
  simp only [exV, Ex.kind, Ex.n, Ex.name] at hev
  generalize hV : evalR equs (.mk kind n nm ks) = V at hev
  clear hsame hb5 hB5 hL5 hQ5 hK5 HB4
  go_wp2_with fail
  refine hev.mono ?_
  rintro e w6 ⟨rfl, hb6⟩
  obtain ⟨w7, hw7⟩ : ∃ w7, w7 = w6.alloc (.cells #[.string ⟨(evN V).toArray⟩, .int .i64 (evI V)] 32) := ⟨_, rfl⟩
  have hb7 : Below w6.heap.size w6 w7 := by rw [hw7]; exact (Below.refl _ _).alloc (Nat.le_refl _) _
  have hs7 : w7.heap.size = w6.heap.size + 1 := by rw [hw7]; simp
  have hv7 : Var2 w7 w6.heap.size (.string ⟨(evN V).toArray⟩) (.int .i64 (evI V)) := by rw [hw7]; exact var2_of (heap_alloc_new _ _)
  have h56 := hb6.size
  have hB7 : Below w0.heap.size w0 w7 := HB5.out.trans ((hb6.mono (by omega)).trans (hb7.mono (by omega)))
  have hQ7 := hQ0.below hB7 (Nat.le_refl _)
  have hK7 := hK0.under hB7 (Nat.le_refl _)
  obtain ⟨⟨z0, z1, z2, z3⟩, _⟩ := hv0.keep (hB7.block _ (by omega))
  have hrv := reval_any (.mk kind n nm ks) _ _ equs w7 p hQ7 hK7
  rw [evalV_one, hV] at hrv
  have HB7 : Hid (Below w0.heap.size w0 w7) := hB7
  simp only [exV, Ex.kind, Ex.n, Ex.name] at hrv
  clear hev hb6 hb7 hB7 hQ7 hK7 HB5 x0 x1 x2 x3
  rw [hw7] at z0 z1 z2 z3
  go_wp2_with fail
  rw [← hw7]
  clear hw7 z0 z1 z2 z3
  refine hrv.mono ?_
  rintro e w8 ⟨rfl, hb8⟩
  have h78 := hb8.size
  obtain ⟨⟨t0, t1⟩, _⟩ := hv7.keep (hb8.block _ (by omega))
  have hl8 : w6.heap.size < w8.heap.size := by omega
  have HB8 : Hid (Below w.heap.size w w8) := HB0.out.trans ((HB7.out.trans (hb8.mono (by omega))).mono (by omega))
  have hl9 : w.heap.size ≤ w8.heap.size := by omega
  clear hrv hb8 hV hv7 hv0 hL0 hQ0 hK0
  go_wp2_with fail
  go_ret
  exact ⟨rfl, HB8.out.alloc (by omega) _⟩

end Go.Proofs.YtibenegbjpoclabDoor
