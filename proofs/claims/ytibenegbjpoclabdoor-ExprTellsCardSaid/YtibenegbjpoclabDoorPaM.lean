/- The contracts of the reader's expression, and of Parse. -/
import Derived.Test.YtibenegbjpoclabDoorPaL
namespace Go.Proofs.YtibenegbjpoclabDoor
open Go.RowKit

theorem cell_at {w : World} {n o : Nat} {cs : Array Value} {t : TypeId} {v : Value} (h : w.heap.size = n) (hv : cs[o]? = some v) : (w.alloc (.cells cs t)).cell? ⟨n, o, none⟩ = some v := by
  simp [World.cell?, new_at _ h, hv]

theorem free_at {w : World} {n o : Nat} {cs : Array Value} {t : TypeId} (h : w.heap[n]? = some (.cells cs t (0, 0))) : w.frozen? ⟨n, o, none⟩ = false := by simp [World.frozen?, h]

/-- A parser while they are made: what all is, is not laid yet. -/
def PW (w : World) (B A : Nat) : Nat → Value → Prop
  | 0, v => ∃ a1, v = .func (.func 31) #[] #[.pointer (some ⟨a1, 0, none⟩), .pointer (some ⟨A, 0, none⟩)] ∧ a1 ≠ B ∧ A ≠ B ∧ a1 ≠ A ∧ w.cell? ⟨a1, 0, none⟩ = some (.pointer (some ⟨B, 0, none⟩))
  | m + 1, v => ∃ p r s v', v = .func (.func 47) #[] #[.pointer (some ⟨p, 0, none⟩), .pointer (some ⟨r, 0, none⟩), .pointer (some ⟨s, 0, none⟩)] ∧ (p ≠ B ∧ r ≠ B ∧ s ≠ B) ∧ (p ≠ A ∧ r ≠ A ∧ s ≠ A) ∧
      w.cell? ⟨p, 0, none⟩ = some v' ∧ w.cell? ⟨r, 0, none⟩ = some (.pointer (some ⟨B, 0, none⟩)) ∧ w.cell? ⟨s, 0, none⟩ = some (.int .i64 ((5 - m : Nat) : Int)) ∧ PW w B A m v'

theorem PW.keep {w w' : World} {B A : Nat} (hk : ∀ b o v, b ≠ A → w.cell? ⟨b, o, none⟩ = some v → w'.cell? ⟨b, o, none⟩ = some v) : ∀ {m : Nat} {v : Value}, PW w B A m v → PW w' B A m v
  | 0, _, ⟨a1, e, h1, h2, h3, c⟩ => ⟨a1, e, h1, h2, h3, hk _ _ _ h3 c⟩
  | _ + 1, _, ⟨p, r, s, v', e, hB, hA, c1, c2, c3, hv⟩ => ⟨p, r, s, v', e, hB, hA, hk _ _ _ hA.1 c1, hk _ _ _ hA.2.1 c2, hk _ _ _ hA.2.2 c3, hv.keep hk⟩
theorem PW.alloc {w : World} {B A m : Nat} {v : Value} (h : PW w B A m v) (o : Obj) : PW (w.alloc o) B A m v :=
  h.keep fun b _ v _ hc => by rw [World.cell?_alloc_lt _ _ _ (World.block_lt_of_cell? w _ hc)]; exact hc
theorem PW.done {w : World} {B A : Nat} {V : Value} (hA : w.cell? ⟨A, 0, none⟩ = some V) : ∀ {m : Nat} {v : Value}, PW w B A m v → PV w B V m v
  | 0, _, ⟨a1, e, h1, h2, _, c⟩ => ⟨a1, A, e, h1, h2, c, hA⟩
  | _ + 1, _, ⟨p, r, s, v', e, hB, _, c1, c2, c3, hv⟩ => ⟨p, r, s, v', e, hB.1, hB.2.1, hB.2.2, c1, c2, c3, hv.done hA⟩
theorem PW.fn {w : World} {B A m : Nat} {v : Value} (h : PW w B A m v) : ∃ f caps, v = .func (.func f) #[] caps := by
  cases m with
  | zero => obtain ⟨a1, e, _⟩ := h; exact ⟨_, _, e⟩
  | succ m => obtain ⟨p, r, s, v', e, _⟩ := h; exact ⟨_, _, e⟩

set_option maxHeartbeats 1000000 in
theorem expression_any (B : Nat) (w : World) (hB : B < w.heap.size) :
    Calls Tryd.prog 15 #[.pointer (some ⟨B, 0, none⟩)] w fun e w' =>
      (∃ V, e = .returned V ∧ PV w' B V 5 V) ∧ Below w.heap.size w w' := by
  have hmf : ∀ (fn : Fn) (first cap : Array Value) (w : World), (Instr.makeFunc fn first cap).run Tryd.prog w = .ok (.func fn first cap) w := fun _ _ _ _ => rfl
  go_enter Tryd.func15, Tryd.ntmps15
  go_wp2
  go_loopw [4, 5] (fun part st wr => ∃ k : Nat, k ≤ 5 ∧ st = .int .i64 ((5 : Int) - k) ∧ Hid (PW wr B (w.heap.size + 1) k part) ∧ Hid (Below w.heap.size w wr) ∧ w.heap.size + 1 < wr.heap.size ∧ wr.cell? ⟨w.heap.size, 0, none⟩ = some (.pointer (some ⟨B, 0, none⟩)) ∧ wr.cell? ⟨w.heap.size + 1, 0, none⟩ = some .nilFunc ∧ wr.frozen? ⟨w.heap.size + 1, 0, none⟩ = false) (fun _ st _ => (intOf st).toNat)
  case atStart =>
    refine ⟨0, by omega, rfl, ⟨w.heap.size, rfl, by omega, by omega, by omega, by simp⟩, ((Below.refl _ _).alloc (Nat.le_refl _) _).alloc (by simp) _, by simp, by simp, by simp, by simp⟩
  case round =>
    obtain ⟨k, hk, rfl, HP, HB, hz, c1, c2, c3⟩ := hrel
    obtain ⟨f, caps, rfl⟩ := HP.out.fn
    by_cases hlt : k < 5
    · have hk1 : ¬ ((5 : Int) - k < 1) := by omega
      go_wp2_with fail
      have hch := chain_any B (5 - k) (.func (.func f) #[] caps) ⟨f, caps, rfl⟩ wr
      rw [show ((5 - k : Nat) : Int) = 5 - (k : Int) by omega] at hch
      refine hch.mono ?_
      rintro e w2 ⟨rfl, rfl⟩
      clear hch
      have hne1 : ¬ wr.heap.size = w.heap.size := by omega
      have hl0 : w.heap.size < wr.heap.size := by omega
      have HP2 : Hid (PW (((wr.alloc (.cells #[.pointer (some ⟨B, 0, none⟩)] 84)).alloc (.cells #[.func (.func f) #[] caps] 48)).alloc (.cells #[.int .i64 (5 - (k : Int))] 3)) B (w.heap.size + 1) (k + 1) (.func (.func 47) #[] #[.pointer (some ⟨wr.heap.size + 1, 0, none⟩), .pointer (some ⟨wr.heap.size, 0, none⟩), .pointer (some ⟨wr.heap.size + 2, 0, none⟩)])) := by
        refine ⟨_, _, _, .func (.func f) #[] caps, rfl, ⟨by omega, by omega, by omega⟩, ⟨by omega, by omega, by omega⟩, ?_, ?_, ?_, ((HP.out.alloc _).alloc _).alloc _⟩
        · rw [World.cell?_alloc_lt _ _ _ (by simp)]
          exact cell_at (by simp) rfl
        · rw [World.cell?_alloc_lt _ _ _ (by simp; omega), World.cell?_alloc_lt _ _ _ (by simp)]
          exact cell_at rfl rfl
        · rw [show ((5 - k : Nat) : Int) = 5 - (k : Int) by omega]
          exact cell_at (by simp) rfl
      go_wp2
      refine ⟨⟨k + 1, by omega, by go_num, HP2, ((HB.out.alloc (by omega) _).alloc (by simp; omega) _).alloc (by simp; omega) _, by simp; omega, ?_, ?_, ?_⟩, by simp [intOf]; omega⟩
      · rw [World.cell?_alloc_lt _ _ _ (by simp; omega), World.cell?_alloc_lt _ _ _ (by simp; omega), World.cell?_alloc_lt _ _ _ (by exact hl0)]; exact c1
      · rw [World.cell?_alloc_lt _ _ _ (by simp; omega), World.cell?_alloc_lt _ _ _ (by simp; omega), World.cell?_alloc_lt _ _ _ (by exact hz)]; exact c2
      · have hb := (((Below.refl wr.heap.size wr).alloc (Nat.le_refl _) (.cells #[.pointer (some ⟨B, 0, none⟩)] 84)).alloc (by simp) (.cells #[.func (.func f) #[] caps] 48)).alloc (by simp; omega) (.cells #[.int .i64 (5 - (k : Int))] 3)
        rw [hb.frozen (by exact hz)]; exact c3
    · have hk1 : (5 : Int) - k < 1 := by omega
      have hke : k = 5 := by omega
      subst hke
      go_wp2
      go_ret
      refine ⟨⟨_, rfl, ?_⟩, HB.out.setCell (Nat.le_succ _) _⟩
      refine PW.done (A := w.heap.size + 1) (World.cell?_setCell_same _ _ _ c2) (HP.out.keep fun b o v hb hc => ?_)
      rw [World.cell?_setCell_other _ _ _ _ (by intro e; injection e with e _; exact hb e.symm)]
      exact hc

/-- What Parse answers. -/
def ParseAns (w' : World) (N : Nat) (ts : List Tok) (r : Except Int (Ex × List Tok)) (e : Ending) : Prop := match r with
  | .ok (x, l) => ∃ (kv : Value) (c' : Nat), e = .returned (.tuple #[exV x kv, .int .i64 (c' : Int), .int .i64 0]) ∧ KR w' (fun b => N ≤ b) kv x.kids ∧ l = ts.drop c' ∧ 0 < c' ∧ c' ≤ ts.length
  | .error y => e = .returned (.tuple #[exZ, .int .i64 0, .int .i64 y]) ∧ y ≠ 0

set_option maxHeartbeats 1000000 in
theorem parse_any (tv : Value) (ts : List Tok) (w : World) (hT : TReads w tv ts) (hL : KLaid w) :
    Calls Tryd.prog 6 #[tv] w fun e w' => (∃ r, Parses ts r ∧ ParseAns w' w.heap.size ts r e) ∧ Below w.heap.size w w' := by
  obtain ⟨ad, cap, rfl, hm, hts⟩ := hT
  have hz := hL.sz
  go_enter Tryd.func6, Tryd.ntmps6
  go_wp2_with fail
  refine (expression_any (w.heap.size + 1) _ (by simp)).mono ?_
  rintro e w1 ⟨⟨V, rfl, hPV⟩, hb1⟩
  have hRd : Rdr ((w.alloc (.cells #[.int .i64 0, .int .i64 0, .string ⟨#[]⟩, .slice none 0 0] 25)).alloc (.cells #[.slice ad ts.length cap, .int .i64 0] 45)) (w.heap.size + 1) ts 0 := by
    have hnew := new_at (w := w.alloc (.cells #[.int .i64 0, .int .i64 0, .string ⟨#[]⟩, .slice none 0 0] 25)) (n := w.heap.size + 1) (.cells #[.slice ad ts.length cap, .int .i64 0] 45) (by simp)
    refine ⟨Nat.zero_le _, hm, by simp, cell_at (by simp) rfl, free_at hnew, ad, cap, cell_at (by simp) rfl, fun h0 => ?_⟩
    obtain ⟨b, o, e, hl, hcs⟩ := hts h0
    refine ⟨b, o, e, by omega, fun i hi => ?_⟩
    have q : ∀ j, ((w.alloc (.cells #[.int .i64 0, .int .i64 0, .string ⟨#[]⟩, .slice none 0 0] 25)).alloc (.cells #[.slice ad ts.length cap, .int .i64 0] 45)).cell? ⟨b, j, none⟩ = w.cell? ⟨b, j, none⟩ := fun j => by
      rw [World.cell?_alloc_lt _ _ _ (by simp; omega), World.cell?_alloc_lt _ _ _ (by exact hl)]
    rw [q, q, q]
    exact hcs i hi
  have hb0 : Below w.heap.size w ((w.alloc (.cells #[.int .i64 0, .int .i64 0, .string ⟨#[]⟩, .slice none 0 0] 25)).alloc (.cells #[.slice ad ts.length cap, .int .i64 0] 45)) := ((Below.refl _ _).alloc (Nat.le_refl _) _).alloc (by simp) _
  have hR1 : Rdr w1 (w.heap.size + 1) ts 0 := hRd.below hb1 (by simp)
  have hB1 : Below w.heap.size w w1 := hb0.trans (hb1.mono (by simp; omega))
  have hE1 : Env w1 (w.heap.size + 1) V := ⟨hL.below hB1 hz, by omega, hPV⟩
  have hv1 : Var4 w1 w.heap.size (.int .i64 0) (.int .i64 0) (.string ⟨#[]⟩) (.slice none 0 0) := ((var4_new w (.int .i64 0) (.int .i64 0) (.string ⟨#[]⟩) (.slice none 0 0) 25).alloc (by simp) _).keep (hb1.block _ (by simp; omega))
  obtain ⟨f, caps, hV, hent⟩ := enters_part hPV
  have hcall := (all_ok (w.heap.size + 1) V ts (ts.length + 1) 0 (by omega)).2 5 (Nat.le_refl _) 0 w1 V f caps (by omega) hR1 hE1 hPV hV
  subst hV
  have hzz : w.heap.size + 1 < w1.heap.size := by have := hb1.size; simp at this; omega
  clear hRd hb0 hb1 hR1 hE1 hPV hts
  go_wp2_with fail
  refine hcall.mono ?_
  rintro e w2 ⟨⟨r, hr, ha⟩, hg2⟩
  have hr' : Parses ts r := by
    rw [List.drop_zero] at hr
    exact hr
  have HP : Hid (Parses ts r) := hr'
  have HB2 : Hid (Below w.heap.size w w2) := hB1.trans (below_of hg2 (by omega) (by omega))
  have hv2 := hv1.by hg2 (by omega) (by omega)
  have hz2 : w1.heap.size ≤ w2.heap.size := hg2.size
  clear hcall hr hr' hg2 hv1 hB1
  obtain ⟨⟨x0, x1, x2, x3⟩, f0, f1, f2, f3⟩ := hv2
  cases r with
  | error y =>
    obtain ⟨a, b, s, ad2, n, m, c', rfl, hy, hR⟩ := ha
    have hy1 : (y != 0) = true := by simpa using hy
    have HY : Hid (y ≠ 0) := hy
    clear hy hR
    have hlt : w.heap.size < w2.heap.size := by omega
    go_wp2
    exact bodyPost_ret (v := .tuple #[.agg #[.int .i64 0, .int .i64 0, .string ⟨#[]⟩, .slice none 0 0], .int .i64 0, .int .i64 y]) (by simp [results, Tryd.results6, go_sem, x0, x1, x2, x3, World.cell?_alloc_lt, hlt]) rfl
      ⟨⟨_, HP.out, rfl, HY.out⟩, ((((HB2.out.setCell (by exact Nat.le_refl _) _).setCell (by exact Nat.le_refl _) _).setCell (by exact Nat.le_refl _) _).setCell (by exact Nat.le_refl _) _).alloc (by simp; omega) _⟩
  | ok q =>
    obtain ⟨x, l⟩ := q
    obtain ⟨kv, c', rfl, hkr, hR, rfl, hc'⟩ := ha
    obtain ⟨ad2, m, rfl⟩ := hkr.shape
    have hlt : w.heap.size < w2.heap.size := by omega
    have hn := hR.cnt
    have HLE : Hid (c' ≤ ts.length) := hR.le
    have HK : Hid (KR w2 (fun b => w.heap.size < b) (.slice ad2 x.kids.length m) x.kids) := hkr.weak fun b hb _ => by omega
    clear hkr hR
    simp only [exV]
    have q0 : ∀ O : Obj, (w2.alloc O).cell? ⟨w.heap.size + 1, 1, none⟩ = some (.int .i64 (c' : Int)) := fun O => by rw [World.cell?_alloc_lt _ _ _ (show w.heap.size + 1 < _ by omega)]; exact hn
    have q1 : ∀ (a b c d : Value) (O : Obj), (((((w2.setCell ⟨w.heap.size, 0, none⟩ a).setCell ⟨w.heap.size, 1, none⟩ b).setCell ⟨w.heap.size, 2, none⟩ c).setCell ⟨w.heap.size, 3, none⟩ d).alloc O).cell? ⟨w.heap.size + 1, 1, none⟩ = some (.int .i64 (c' : Int)) := fun a b c d O => by
      rw [World.cell?_alloc_lt _ _ _ (show w.heap.size + 1 < _ by simp; omega)]
      rw [World.cell?_of_block (w := w2) (by
        show (((((w2.setCell ⟨w.heap.size, 0, none⟩ a).setCell ⟨w.heap.size, 1, none⟩ b).setCell ⟨w.heap.size, 2, none⟩ c).setCell ⟨w.heap.size, 3, none⟩ d)).heap[w.heap.size + 1]? = w2.heap[w.heap.size + 1]?
        rw [Below.heap_setCell _ _ _ _ (Nat.succ_ne_self _), Below.heap_setCell _ _ _ _ (Nat.succ_ne_self _), Below.heap_setCell _ _ _ _ (Nat.succ_ne_self _), Below.heap_setCell _ _ _ _ (Nat.succ_ne_self _)])]
      exact hn
    go_wp2
    go_region
    go_wp2
    exact bodyPost_ret (v := .tuple #[.agg #[.int .i64 x.kind, .int .i64 x.n, .string ⟨x.name.toArray⟩, .slice ad2 x.kids.length m], .int .i64 (c' : Int), .int .i64 0]) (by simp [results, Tryd.results6, go_sem, x0, x1, x2, x3, World.cell?_alloc_lt, hlt]) rfl
      ⟨⟨_, HP.out, _, _, rfl, (((HK.out.set4p (fun b hb => by omega)).alloc _).weak (fun b hb _ => Nat.le_of_lt hb)).under (Go.Joins.below_draws _ _ 1) (Nat.le_refl _), rfl, hc', HLE.out⟩,
        (((((HB2.out.setCell (by exact Nat.le_refl _) _).setCell (by exact Nat.le_refl _) _).setCell (by exact Nat.le_refl _) _).setCell (by exact Nat.le_refl _) _).alloc (by simp; omega) _).drew⟩

end Go.Proofs.YtibenegbjpoclabDoor
