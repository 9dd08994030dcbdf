/- The document's Parse, and its SameExpr at equal expressions. -/
import Derived.Test.YtibenegbjpoclabDoorReF
namespace Go.Proofs.YtibenegbjpoclabDoor
open Go.RowKit

theorem rall_ok (Q : Nat) (ts : List Tok) : ∀ (n c : Nat), ts.length - c < n → PrimeOK Q ts c ∧ ClimbOK Q ts c
  | 0, c, h => by omega
  | n + 1, c, h => by
    have both : ∀ c', c < c' → PrimeOK Q ts c' ∧ ClimbOK Q ts c' := fun c' h1 => by
      by_cases h2 : c' ≤ ts.length
      · exact rall_ok Q ts n c' (by omega)
      · exact ⟨fun deep w _ hC => absurd hC.1.le (by omega), fun least deep w _ _ _ hC => absurd hC.1.le (by omega)⟩
    have hp := prime_step Q ts c (fun c' h1 => (both c' h1).1) (fun c' h1 => (both c' h1).2)
    exact ⟨hp, climb_step Q ts c hp (fun c' h1 => (both c' h1).2)⟩

/-- What the document's Parse answers. -/
def RParseAns (w' : World) (N : Nat) (ts : List Tok) (r : Except Int (Ex × List Tok)) (e : Ending) : Prop := match r with
  | .ok (x, l) => ∃ (kv : Value) (c' : Nat), e = .returned (.tuple #[exV x kv, .int .i64 (c' : Int), .int .i64 0]) ∧ KR w' (fun b => N ≤ b) kv x.kids ∧ l = ts.drop c' ∧ c' ≤ ts.length
  | .error y => e = .returned (.tuple #[exZ, .int .i64 0, .int .i64 y])

set_option maxHeartbeats 2000000 in
set_option maxRecDepth 100000 in
theorem rparse_any (tv : Value) (ts : List Tok) (w : World) (hT : TReads w tv ts) :
    Calls Tryd.prog 7 #[tv] w fun e w' => (∃ r, Parses ts r ∧ RParseAns w' w.heap.size ts r e) ∧ Below w.heap.size w w' := by
  obtain ⟨ad, cap, rfl, hm, hts⟩ := hT
  obtain ⟨w0, hw0⟩ : ∃ w0, w0 = (w.alloc (.cells #[.int .i64 0, .int .i64 0, .string ⟨#[]⟩, .slice none 0 0] 25)).alloc (.cells #[.slice ad ts.length cap, .int .i64 0, .slice none 0 0] 53) := ⟨_, rfl⟩
  have hnew : w0.heap[w.heap.size + 1]? = some (.cells #[.slice ad ts.length cap, .int .i64 0, .slice none 0 0] 53 (0, 0)) := by rw [hw0]; exact new_at _ (by simp)
  have hz0 : w0.heap.size = w.heap.size + 2 := by rw [hw0]; simp
  have hb0 : Below w.heap.size w w0 := by rw [hw0]; exact ((Below.refl _ _).alloc (Nat.le_refl _) _).alloc (by simp) _
  have hC0 : Cl w0 (w.heap.size + 1) ts 0 := by
    have c2 : w0.cell? ⟨w.heap.size + 1, 2, none⟩ = some (.slice none 0 0) := by simp [World.cell?, hnew]
    refine ⟨⟨Nat.zero_le _, hm, by omega, Nat.lt_succ_self _, by simp [World.cell?, hnew], free_at hnew, free_at hnew, ⟨_, c2, World.ownsRow_nil _ _ _ _⟩, ad, cap, by simp [World.cell?, hnew], fun h0 => ?_⟩, c2⟩
    obtain ⟨b, o, e, hl, hcs⟩ := hts h0
    refine ⟨b, o, e, by omega, fun i hi => ?_⟩
    rw [hb0.cell (by exact hl), hb0.cell (by exact hl), hb0.cell (by exact hl)]
    exact hcs i hi
  have hv0 : Var4 w0 w.heap.size (.int .i64 0) (.int .i64 0) (.string ⟨#[]⟩) (.slice none 0 0) := by rw [hw0]; exact (var4_new w _ _ _ _ _).alloc (by simp) _
  have hcall := (rall_ok (w.heap.size + 1) ts (ts.length + 1) 0 (by omega)).2 1 0 w0 (by omega) (by omega) (by omega) hC0
  clear hnew hC0 hts
  go_enter Tryd.func7, Tryd.ntmps7
  go_wp2_with fail
  rw [← hw0]
  clear hw0
  refine hcall.mono ?_
  rintro e w1 ⟨⟨r, hr, a, b, s, ad1, n, m, rfl, hrest⟩, hg1⟩
  have HP : Hid (Parses ts r) := by
    rw [List.drop_zero] at hr
    exact hr
  have hB1 : Below w.heap.size w w1 := hb0.trans (below_of hg1 (by omega) (by omega))
  have HB1 : Hid (Below w.heap.size w w1) := hB1
  have hv1 := hv0.by hg1 (by omega) (by omega)
  have hz1 : w.heap.size + 1 < w1.heap.size := by have := hg1.size; omega
  have hz2 : w.heap.size < w1.heap.size := by omega
  obtain ⟨⟨x0, x1, x2, x3⟩, f0, f1, f2, f3⟩ := hv1
  clear hcall hr hg1 hb0 hB1 hv0
  cases r with
  | error y =>
    obtain ⟨c', es, hPR, hbd⟩ := hrest
    obtain ⟨ev, hev, hown⟩ := hPR.errs
    rcases hown.2 with ⟨_, h0⟩ | ⟨g, ecap, cur, rfl, hgN, hcur, hle, hmx, hsz, htk⟩
    · simp at h0
    have hcg : w1.cell? ⟨g, 0, none⟩ = some (.int .i64 y) := by
      have h1 : cur[0]? = some (.int .i64 y) := by
        rw [← Array.getElem?_toList]
        have := congrArg (fun l => l[0]?) htk
        simpa [errVs] using this
      simp [World.cell?, hcur, h1]
    have hgl : g < w1.heap.size := (Array.getElem?_eq_some_iff.1 hcur).1
    have hg0 : ¬ g = w.heap.size := by omega
    have hlen : (y :: es).length = es.length + 1 := rfl
    rw [hlen] at hev
    have hpos : (0 : Int) < ((es.length + 1 : Nat) : Int) := by omega
    have q0 : ∀ O : Obj, (w1.alloc O).cell? ⟨w.heap.size + 1, 2, none⟩ = some (.slice (some ⟨g, 0, none⟩) (es.length + 1) ecap) := fun O => by rw [World.cell?_alloc_lt _ _ _ (by exact hz1)]; exact hev
    have q1 : ∀ O : Obj, (w1.alloc O).cell? ⟨g, 0, none⟩ = some (.int .i64 y) := fun O => by rw [World.cell?_alloc_lt _ _ _ (by exact hgl)]; exact hcg
    have q2 : ∀ (a b c d : Value) (O : Obj), (((((w1.setCell ⟨w.heap.size, 0, none⟩ a).setCell ⟨w.heap.size, 1, none⟩ b).setCell ⟨w.heap.size, 2, none⟩ c).setCell ⟨w.heap.size, 3, none⟩ d).alloc O).cell? ⟨w.heap.size + 1, 2, none⟩ = some (.slice (some ⟨g, 0, none⟩) (es.length + 1) ecap) := fun a b c d O => by
      rw [World.cell?_alloc_lt _ _ _ (show w.heap.size + 1 < _ by simp; omega)]
      rw [World.cell?_of_block (w := w1) (a := ⟨w.heap.size + 1, 2, none⟩) (by
        show (((((w1.setCell ⟨w.heap.size, 0, none⟩ a).setCell ⟨w.heap.size, 1, none⟩ b).setCell ⟨w.heap.size, 2, none⟩ c).setCell ⟨w.heap.size, 3, none⟩ d)).heap[w.heap.size + 1]? = w1.heap[w.heap.size + 1]?
        rw [Below.heap_setCell _ _ _ _ (Nat.succ_ne_self _), Below.heap_setCell _ _ _ _ (Nat.succ_ne_self _), Below.heap_setCell _ _ _ _ (Nat.succ_ne_self _), Below.heap_setCell _ _ _ _ (Nat.succ_ne_self _)])]
      exact hev
    have q3 : ∀ (a b c d : Value) (O : Obj), (((((w1.setCell ⟨w.heap.size, 0, none⟩ a).setCell ⟨w.heap.size, 1, none⟩ b).setCell ⟨w.heap.size, 2, none⟩ c).setCell ⟨w.heap.size, 3, none⟩ d).alloc O).cell? ⟨g, 0, none⟩ = some (.int .i64 y) := fun a b c d O => by
      rw [World.cell?_alloc_lt _ _ _ (show g < _ by simp; omega)]
      rw [World.cell?_of_block (w := w1) (a := ⟨g, 0, none⟩) (by
        show (((((w1.setCell ⟨w.heap.size, 0, none⟩ a).setCell ⟨w.heap.size, 1, none⟩ b).setCell ⟨w.heap.size, 2, none⟩ c).setCell ⟨w.heap.size, 3, none⟩ d)).heap[g]? = w1.heap[g]?
        rw [Below.heap_setCell _ _ _ _ (by exact hg0), Below.heap_setCell _ _ _ _ (by exact hg0), Below.heap_setCell _ _ _ _ (by exact hg0), Below.heap_setCell _ _ _ _ (by exact hg0)])]
      exact hcg
    clear hcur hown hPR htk hcg hev
    go_wp2
    go_region
    go_wp2
    exact bodyPost_ret (v := .tuple #[.agg #[.int .i64 0, .int .i64 0, .string ⟨#[]⟩, .slice none 0 0], .int .i64 0, .int .i64 y]) (by simp [results, Tryd.results7, go_sem, x0, x1, x2, x3, World.cell?_alloc_lt, hz2]) rfl
      ⟨⟨_, HP.out, rfl⟩, (((((HB1.out.setCell (by exact Nat.le_refl _) _).setCell (by exact Nat.le_refl _) _).setCell (by exact Nat.le_refl _) _).setCell (by exact Nat.le_refl _) _).alloc (by simp; omega) _).drew⟩
  | ok q =>
    obtain ⟨x, l⟩ := q
    obtain ⟨⟨rfl, rfl, rfl, rfl⟩, hkr, c', hC, rfl, hc'⟩ := hrest
    have hn := hC.1.cnt
    have he := hC.2
    have HLE : Hid (c' ≤ ts.length) := hC.1.le
    have HK : Hid (KR w1 (fun b => w.heap.size < b) (.slice ad1 x.kids.length m) x.kids) := hkr.weak fun b hb _ => by omega
    have q0 : ∀ O : Obj, (w1.alloc O).cell? ⟨w.heap.size + 1, 1, none⟩ = some (.int .i64 (c' : Int)) := fun O => by rw [World.cell?_alloc_lt _ _ _ (by exact hz1)]; exact hn
    have q1 : ∀ (a b c d : Value) (O : Obj), (((((w1.setCell ⟨w.heap.size, 0, none⟩ a).setCell ⟨w.heap.size, 1, none⟩ b).setCell ⟨w.heap.size, 2, none⟩ c).setCell ⟨w.heap.size, 3, none⟩ d).alloc O).cell? ⟨w.heap.size + 1, 1, none⟩ = some (.int .i64 (c' : Int)) := fun a b c d O => by
      rw [World.cell?_alloc_lt _ _ _ (show w.heap.size + 1 < _ by simp; omega)]
      rw [World.cell?_of_block (w := w1) (a := ⟨w.heap.size + 1, 1, none⟩) (by
        show (((((w1.setCell ⟨w.heap.size, 0, none⟩ a).setCell ⟨w.heap.size, 1, none⟩ b).setCell ⟨w.heap.size, 2, none⟩ c).setCell ⟨w.heap.size, 3, none⟩ d)).heap[w.heap.size + 1]? = w1.heap[w.heap.size + 1]?
        rw [Below.heap_setCell _ _ _ _ (Nat.succ_ne_self _), Below.heap_setCell _ _ _ _ (Nat.succ_ne_self _), Below.heap_setCell _ _ _ _ (Nat.succ_ne_self _), Below.heap_setCell _ _ _ _ (Nat.succ_ne_self _)])]
      exact hn
    clear hC hkr
    go_wp2
    go_region
    go_wp2
    exact bodyPost_ret (v := .tuple #[.agg #[.int .i64 x.kind, .int .i64 x.n, .string ⟨x.name.toArray⟩, .slice ad1 x.kids.length m], .int .i64 (c' : Int), .int .i64 0]) (by simp [results, Tryd.results7, go_sem, x0, x1, x2, x3, World.cell?_alloc_lt, hz2]) rfl
      ⟨⟨_, HP.out, _, _, rfl, (((HK.out.set4p (fun b hb => by omega)).alloc _).weak (fun b hb _ => Nat.le_of_lt hb)).under (Go.Joins.below_draws _ _ 1) (Nat.le_refl _), rfl, HLE.out⟩,
        (((((HB1.out.setCell (by exact Nat.le_refl _) _).setCell (by exact Nat.le_refl _) _).setCell (by exact Nat.le_refl _) _).setCell (by exact Nat.le_refl _) _).alloc (by simp; omega) _).drew⟩

end Go.Proofs.YtibenegbjpoclabDoor
