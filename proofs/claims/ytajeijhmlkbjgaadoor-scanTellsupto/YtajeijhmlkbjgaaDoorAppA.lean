/- append onto a slice that the call has made, of a slice that may be empty, or nil; and what lines of a source of two parts are. -/
import Derived.Test.YtajeijhmlkbjgaaDoorSameB
import Derived.Deep.AppendSrc
namespace Go.Proofs.YtajeijhmlkbjgaaDoor
open Go.RowKit

theorem append_any (t ty e : TypeId) (i : TypeInfo) (z : Value) (size bytes : Nat) (ht : Tryd.prog.underlying t = some (.slice e)) (hi : Tryd.prog.info? e = some i) (hz : i.zero = some z)
    (hsize : i.size = size) (hby : i.bytes = bytes) (hzs : z.cells.size = size) (hsz : 0 < size)
    (W : World) (base g n cap0 : Nat) (xs : List Value) (hown : W.ownsRow base e size (.slice (some ⟨g, 0, none⟩) n cap0) n xs)
    (ad : Option Addr) (m c : Nat) (news : List Value) (hl : news.length = m * size) (hsrc : 0 < m → ∃ a, ad = some a ∧ ∀ j u, news[j]? = some u → W.cell? (a.add j) = some u) (hnil : ad = none → m = 0) (h1 : ∀ u ∈ news, u.oneCell' = true)
    (h63 : n + m ≤ maxLen) (hbytes : (n + m) * bytes ≤ 140737488355328) (hbase : base ≤ W.heap.size) :
    ∃ g' cap' W', (Builtin.append_ #[t, t] ty #[.slice (some ⟨g, 0, none⟩) n cap0, .slice ad m c]).run Tryd.prog W = .ok (.slice (some ⟨g', 0, none⟩) (n + m) cap') W' ∧ W'.ownsRow base e size (.slice (some ⟨g', 0, none⟩) (n + m) cap') (n + m) (xs ++ news) ∧ W.grownBy W' (some g) := by
  have hcap : n ≤ cap0 := by
    rcases hown.2 with ⟨h, _⟩ | ⟨_, _, _, h, _, _, hle, _⟩
    · cases h
    · injection h with _ _ h3; omega
  cases ad with
  | none =>
    have hm := hnil rfl
    subst hm
    have hn0 : news = [] := List.eq_nil_of_length_eq_zero (by omega)
    subst hn0
    have := run_append_room_src (P := Tryd.prog) W t t ty e i ht hi g 0 n cap0 (.slice none 0 c) 0 [] (Src.ofNil W ht c) (by omega) (by simp) (by simp)
    refine ⟨g, cap0, W, by simpa [World.setCells] using this, by simpa using hown, World.grownBy.refl W _⟩
  | some a =>
    obtain ⟨v', W', hr, ho, hg, hiff⟩ := run_append_own (P := Tryd.prog) W base t ty e i z size bytes ht hi hz hsize hby hzs hsz _ n xs hown a m c news hl (fun j u hj => by
      by_cases h0 : 0 < m
      · obtain ⟨a', e', hc⟩ := hsrc h0
        cases e'
        exact hc j u hj
      · have hn0 : news = [] := List.eq_nil_of_length_eq_zero (by rw [hl, show m = 0 by omega]; omega)
        rw [hn0] at hj
        simp at hj) h1 h63 hbytes hbase
    rcases ho.2 with ⟨h, _⟩ | ⟨g', cap', cur, rfl, rest⟩
    · have := (hiff.1 h).1
      cases this
    · exact ⟨g', cap', W', hr, ⟨ho.1, Or.inr ⟨g', cap', cur, rfl, rest⟩⟩, hg⟩

theorem splitNL_cons {c : UInt8} (hc : c ≠ 10) (r : List UInt8) : splitNL (c :: r) = match splitNL r with
    | [] => [[c]]
    | x :: y => (c :: x) :: y := by
  rw [splitNL, if_neg hc]
  rfl

theorem linesR_cons (n : Nat) (l : List UInt8) (r : List (List UInt8)) : linesR n (l :: r) = if lineErr l = 0 then
      match linesR (n + 1) r with
      | .error e => .error e
      | .ok ls => .ok (if lineList l = [] then ls else ⟨n, lineList l⟩ :: ls)
    else .error (lineErr l, n) := rfl

theorem splitNL_app : ∀ (a b : List UInt8), splitNL (a ++ 10 :: b) = splitNL a ++ splitNL b
  | [], b => rfl
  | c :: r, b => by
    have ih := splitNL_app r b
    by_cases hc : c = 10
    · subst hc
      simp only [List.cons_append, splitNL, if_true, ih]
    · rw [List.cons_append, splitNL_cons hc, splitNL_cons hc, ih]
      have hne := splitNL_ne r
      cases hs : splitNL r with
      | nil => exact absurd hs hne
      | cons x y => rfl

theorem splitNL_len : ∀ l : List UInt8, (splitNL l).length = l.count 10 + 1
  | [] => rfl
  | c :: r => by
    have ih := splitNL_len r
    by_cases hc : c = 10
    · subst hc
      simp only [splitNL, if_true, List.length_cons, ih, List.count_cons_self]
    · have hcnt : (c :: r).count 10 = r.count 10 := by rw [List.count_cons]; simp [hc]
      rw [hcnt, ← ih, splitNL_cons hc]
      have hne := splitNL_ne r
      cases hs : splitNL r with
      | nil => exact absurd hs hne
      | cons x y => rfl

def shiftL (d : Nat) (ls : List Ln) : List Ln := ls.map fun l => ⟨l.pos + d, l.toks⟩

theorem linesR_shift (d : Nat) : ∀ (L : List (List UInt8)) (n : Nat), linesR (n + d) L = match linesR n L with
    | .error e => .error (e.1, e.2 + d)
    | .ok ls => .ok (shiftL d ls)
  | [], n => rfl
  | l :: r, n => by
    have ih := linesR_shift d r (n + 1)
    have e : n + d + 1 = n + 1 + d := by omega
    rw [linesR_cons, linesR_cons]
    by_cases h : lineErr l = 0
    · rw [if_pos h, if_pos h, e, ih]
      cases linesR (n + 1) r with
      | error e => rfl
      | ok ls =>
        by_cases hl : lineList l = []
        · simp [hl]
        · simp only [hl, if_false]
          simp [shiftL]
    · rw [if_neg h, if_neg h]
      simp

theorem linesR_app : ∀ (A B : List (List UInt8)) (n : Nat), linesR n (A ++ B) = match linesR n A with
    | .error e => .error e
    | .ok xs => match linesR (n + A.length) B with
      | .error e => .error e
      | .ok ys => .ok (xs ++ ys)
  | [], B, n => by
    simp only [List.nil_append, linesR, List.length_nil, Nat.add_zero]
    cases linesR n B <;> rfl
  | l :: r, B, n => by
    have ih := linesR_app r B (n + 1)
    have e : n + (l :: r).length = n + 1 + r.length := by simp; omega
    rw [List.cons_append, e, linesR_cons, linesR_cons]
    by_cases h : lineErr l = 0
    · rw [if_pos h, if_pos h, ih]
      cases linesR (n + 1) r with
      | error e => rfl
      | ok xs =>
        simp only
        cases linesR (n + 1 + r.length) B with
        | error e => rfl
        | ok ys =>
          by_cases hl : lineList l = []
          · simp [hl]
          · simp [hl]
    · rw [if_neg h, if_neg h]

theorem linesR_bad : ∀ (L : List (List UInt8)) (n : Nat) (e p : Int), linesR n L = .error (e, p) → e ≠ 0 ∧ (n : Int) ≤ p ∧ p < n + L.length
  | [], n, e, p, h => by simp [linesR] at h
  | l :: r, n, e, p, h => by
    rw [linesR_cons] at h
    by_cases hl : lineErr l = 0
    · rw [if_pos hl] at h
      cases hr : linesR (n + 1) r with
      | error q =>
        rw [hr] at h
        injection h with h
        obtain ⟨h1, h2, h3⟩ := linesR_bad r (n + 1) q.1 q.2 hr
        have e1 : q.1 = e := congrArg Prod.fst h
        have e2 : q.2 = p := congrArg Prod.snd h
        rw [e1] at h1
        rw [e2] at h2 h3
        refine ⟨h1, by omega, by simp only [List.length_cons]; omega⟩
      | ok xs => rw [hr] at h; simp at h
    · rw [if_neg hl] at h
      injection h with h
      have e1 : lineErr l = e := congrArg Prod.fst h
      have e2 : (n : Int) = p := congrArg Prod.snd h
      refine ⟨e1 ▸ hl, by omega, by simp only [List.length_cons]; omega⟩

theorem linesR_pos : ∀ (L : List (List UInt8)) (n : Nat) (ls : List Ln), linesR n L = .ok ls → ls.length ≤ L.length ∧ ∀ l, l ∈ ls → (n : Int) ≤ l.pos ∧ l.pos < n + L.length
  | [], n, ls, h => by simp [linesR] at h; subst h; simp
  | l :: r, n, ls, h => by
    rw [linesR_cons] at h
    by_cases hl : lineErr l = 0
    · rw [if_pos hl] at h
      cases hr : linesR (n + 1) r with
      | error q => rw [hr] at h; simp at h
      | ok xs =>
        rw [hr] at h
        simp only [Except.ok.injEq] at h
        obtain ⟨h1, h2⟩ := linesR_pos r (n + 1) xs hr
        by_cases he : lineList l = []
        · rw [if_pos he] at h
          subst h
          refine ⟨by simp only [List.length_cons]; omega, fun q hq => ?_⟩
          have := h2 q hq
          simp only [List.length_cons]
          omega
        · rw [if_neg he] at h
          subst h
          refine ⟨by simp only [List.length_cons]; omega, fun q hq => ?_⟩
          simp only [List.length_cons]
          rcases List.mem_cons.1 hq with rfl | hq
          · show (n : Int) ≤ (n : Int) ∧ (n : Int) < _
            omega
          · have := h2 q hq
            omega
    · rw [if_neg hl] at h
      cases h

end Go.Proofs.YtajeijhmlkbjgaaDoor
