/- The document's own reader of expressions in memory; the contracts of strength, sign and bad. -/
import Derived.Test.YtibenegbjpoclabDoorPaM
namespace Go.Proofs.YtibenegbjpoclabDoor
open Go.RowKit

theorem strength_any (s : List UInt8) (w : World) :
    Calls Tryd.prog 35 #[.string ⟨s.toArray⟩] w fun e w' => e = .returned (.tuple #[.int .i64 ((strengthR s).1 : Int), .int .i64 (strengthR s).2]) ∧ w = w' := by
  by_cases h1 : s = [124]
  · subst h1
    go_enter Tryd.func35, Tryd.ntmps35
    go_wp2
    go_ret2
    exact ⟨rfl, rfl⟩
  by_cases h2 : s = [38]
  · subst h2
    go_enter Tryd.func35, Tryd.ntmps35
    go_wp2
    go_ret2
    exact ⟨rfl, rfl⟩
  by_cases h3 : s = [60, 60]
  · subst h3
    go_enter Tryd.func35, Tryd.ntmps35
    go_wp2
    go_ret2
    exact ⟨rfl, rfl⟩
  by_cases h4 : s = [62, 62]
  · subst h4
    go_enter Tryd.func35, Tryd.ntmps35
    go_wp2
    go_ret2
    exact ⟨rfl, rfl⟩
  by_cases h5 : s = [43]
  · subst h5
    go_enter Tryd.func35, Tryd.ntmps35
    go_wp2
    go_ret2
    exact ⟨rfl, rfl⟩
  by_cases h6 : s = [45]
  · subst h6
    go_enter Tryd.func35, Tryd.ntmps35
    go_wp2
    go_ret2
    exact ⟨rfl, rfl⟩
  by_cases h7 : s = [42]
  · subst h7
    go_enter Tryd.func35, Tryd.ntmps35
    go_wp2
    go_ret2
    exact ⟨rfl, rfl⟩
  have HS : Hid (strengthR s = (0, 0)) := by simp [Hid, strengthR, h1, h2, h3, h4, h5, h6, h7]
  have e1 : (s == [124]) = false := by simpa using h1
  have e2 : (s == [38]) = false := by simpa using h2
  have e3 : (s == [60, 60]) = false := by simpa using h3
  have e4 : (s == [62, 62]) = false := by simpa using h4
  have e5 : (s == [43]) = false := by simpa using h5
  have e6 : (s == [45]) = false := by simpa using h6
  have e7 : (s == [42]) = false := by simpa using h7
  clear h1 h2 h3 h4 h5 h6 h7
  go_enter Tryd.func35, Tryd.ntmps35
  go_wp2
  go_ret2
  rw [HS.out]
  exact ⟨rfl, rfl⟩

def errVs (es : List Int) : List Value := es.map fun y => .int .i64 y

/-- The document's reader at block Q: tokens, of which c are read; faults es, in a row from block N on. -/
structure PRd (w : World) (Q N : Nat) (ts : List Tok) (c : Nat) (es : List Int) : Prop where
  le : c ≤ ts.length
  few : ts.length ≤ maxLen
  lt : Q < w.heap.size
  low : Q < N
  cnt : w.cell? ⟨Q, 1, none⟩ = some (.int .i64 c)
  fr1 : w.frozen? ⟨Q, 1, none⟩ = false
  fr2 : w.frozen? ⟨Q, 2, none⟩ = false
  errs : ∃ ev, w.cell? ⟨Q, 2, none⟩ = some ev ∧ w.ownsRow N 27 1 ev es.length (errVs es)
  toks : ∃ ad cap, w.cell? ⟨Q, 0, none⟩ = some (.slice ad ts.length cap) ∧ (0 < ts.length → ∃ b o, ad = some ⟨b, o, none⟩ ∧ b < Q ∧ ∀ i (h : i < ts.length),
    w.cell? ⟨b, o + i * 3, none⟩ = some (.int .i64 ts[i].kind) ∧ w.cell? ⟨b, o + i * 3 + 1, none⟩ = some (.int .i64 ts[i].n) ∧ w.cell? ⟨b, o + i * 3 + 2, none⟩ = some (.string ⟨ts[i].text.toArray⟩))

theorem owns_shape {w : World} {base n : Nat} {e : TypeId} {size : Nat} {v : Value} {xs : List Value} (h : w.ownsRow base e size v n xs) : ∃ ad cap, v = .slice ad n cap := by
  rcases h.2 with ⟨rfl, rfl⟩ | ⟨g, cap, cur, rfl, _⟩
  · exact ⟨_, _, rfl⟩
  · exact ⟨_, _, rfl⟩

/-- What lies up to Q, and the row of faults, stay. -/
theorem PRd.keep {w w' : World} {Q N M : Nat} {ts : List Tok} {c : Nat} {es : List Int} (h : PRd w Q N ts c es) (hM : M ≤ N) (hQM : Q < M) (hs : w.heap.size ≤ w'.heap.size) (hb : ∀ b, b ≤ Q → w'.heap[b]? = w.heap[b]?) (hr : ∀ b, N ≤ b → b < w.heap.size → w'.heap[b]? = w.heap[b]?) : PRd w' Q M ts c es := by
  have hc : ∀ b o, b ≤ Q → w'.cell? ⟨b, o, none⟩ = w.cell? ⟨b, o, none⟩ := fun b o hl => World.cell?_of_block (w := w) (hb b hl)
  refine ⟨h.le, h.few, Nat.lt_of_lt_of_le h.lt hs, hQM, by rw [hc _ _ (Nat.le_refl _)]; exact h.cnt, (World.frozen?_of_block (w := w) (hb Q (Nat.le_refl _))).trans h.fr1, (World.frozen?_of_block (w := w) (hb Q (Nat.le_refl _))).trans h.fr2, ?_, ?_⟩
  · obtain ⟨ev, e1, e2⟩ := h.errs
    refine ⟨ev, by rw [hc _ _ (Nat.le_refl _)]; exact e1, e2.1, ?_⟩
    rcases e2.2 with h0 | ⟨g, cap, cur, rfl, hg, hcur, rest⟩
    · exact Or.inl h0
    · exact Or.inr ⟨g, cap, cur, rfl, Nat.le_trans hM hg, (hr g hg (Array.getElem?_eq_some_iff.1 hcur).1).trans hcur, rest⟩
  · obtain ⟨ad, cap, h0, h1⟩ := h.toks
    refine ⟨ad, cap, by rw [hc _ _ (Nat.le_refl _)]; exact h0, fun hp => ?_⟩
    obtain ⟨b, o, e, hl, hcs⟩ := h1 hp
    refine ⟨b, o, e, hl, fun i hi => ?_⟩
    rw [hc _ _ (by omega), hc _ _ (by omega), hc _ _ (by omega)]
    exact hcs i hi
theorem PRd.below {w w' : World} {Q N : Nat} {ts : List Tok} {c : Nat} {es : List Int} (h : PRd w Q N ts c es) (hb : Below w.heap.size w w') : PRd w' Q N ts c es :=
  h.keep (Nat.le_refl _) h.low hb.size (fun b hl => hb.block b (by have := h.lt; omega)) (fun b _ hl => hb.block b hl)
theorem PRd.put {w : World} {Q N R o : Nat} {u : Value} {ts : List Tok} {c : Nat} {es : List Int} (h : PRd w Q N ts c es) (hQ : Q < R) (hR : R < N) : PRd (w.setCell ⟨R, o, none⟩ u) Q N ts c es :=
  h.keep (Nat.le_refl _) h.low (by simp) (fun b hl => Below.heap_setCell _ _ _ _ (by show b ≠ R; omega)) (fun b hl _ => Below.heap_setCell _ _ _ _ (by show b ≠ R; omega))
theorem PRd.put4 {w : World} {Q N R : Nat} {a b c d : Value} {ts : List Tok} {n : Nat} {es : List Int} (h : PRd w Q N ts n es) (hQ : Q < R) (hR : R < N) : PRd ((((w.setCell ⟨R, 0, none⟩ a).setCell ⟨R, 1, none⟩ b).setCell ⟨R, 2, none⟩ c).setCell ⟨R, 3, none⟩ d) Q N ts n es :=
  (((h.put hQ hR).put hQ hR).put hQ hR).put hQ hR
theorem PRd.low_to {w : World} {Q N M : Nat} {ts : List Tok} {c : Nat} {es : List Int} (h : PRd w Q N ts c es) (hM : M ≤ N) (hQM : Q < M) : PRd w Q M ts c es :=
  h.keep hM hQM (Nat.le_refl _) (fun _ _ => rfl) (fun _ _ _ => rfl)
/-- Where there is no fault the row's place says nothing. -/
theorem PRd.clean {w : World} {Q N M : Nat} {ts : List Tok} {c : Nat} (h : PRd w Q N ts c []) (hQM : Q < M) (hz : w.cell? ⟨Q, 2, none⟩ = some (.slice none 0 0)) : PRd w Q M ts c [] :=
  ⟨h.le, h.few, h.lt, hQM, h.cnt, h.fr1, h.fr2, ⟨_, hz, World.ownsRow_nil _ _ _ _⟩, h.toks⟩
theorem PRd.set {w : World} {Q N : Nat} {ts : List Tok} {c : Nat} {es : List Int} (h : PRd w Q N ts c es) (c' : Nat) (hc : c' ≤ ts.length) : PRd (w.setCell ⟨Q, 1, none⟩ (.int .i64 c')) Q N ts c' es := by
  have hlow := h.low
  refine ⟨hc, h.few, by simpa using h.lt, h.low, World.cell?_setCell_same _ _ _ h.cnt, by rw [World.frozen?_setCell]; exact h.fr1, by rw [World.frozen?_setCell]; exact h.fr2, ?_, ?_⟩
  · obtain ⟨ev, e1, e2⟩ := h.errs
    exact ⟨ev, by rw [off_other _ _ _ (by decide)]; exact e1, ownsRow_setCell_below e2 (by exact hlow) _⟩
  · obtain ⟨ad, cap, h0, h1⟩ := h.toks
    refine ⟨ad, cap, by rw [off_other _ _ _ (by decide)]; exact h0, fun hp => ?_⟩
    obtain ⟨b, o, e, hl, hcs⟩ := h1 hp
    refine ⟨b, o, e, hl, fun i hi => ?_⟩
    have hne : ∀ j, (⟨Q, 1, none⟩ : Addr) ≠ ⟨b, j, none⟩ := by intro j e; injection e with e1 _; omega
    rw [World.cell?_setCell_other _ _ _ _ (hne _), World.cell?_setCell_other _ _ _ _ (hne _), World.cell?_setCell_other _ _ _ _ (hne _)]
    exact hcs i hi

set_option maxHeartbeats 1000000 in
theorem sign_any (Q N : Nat) (ts : List Tok) (c : Nat) (es : List Int) (w : World) (hR : PRd w Q N ts c es) :
    Calls Tryd.prog 36 #[.pointer (some ⟨Q, 0, none⟩)] w fun e w' => e = .returned (.string ⟨(signOf (ts.drop c)).toArray⟩) ∧ Below w.heap.size w w' := by
  obtain ⟨ad, cap, ht, hts⟩ := hR.toks
  have hn := hR.cnt
  have hle := hR.le
  have hfew := hR.few
  unfold maxLen at hfew
  by_cases hlt : c < ts.length
  · obtain ⟨b, o, rfl, hb, hcs⟩ := hts (by omega)
    obtain ⟨c0, _, c2⟩ := hcs c hlt
    have e0 : decide ((c : Int) < (ts.length : Int)) = true := by simp; omega
    have hc1 : (c : Int) < ts.length := by omega
    have HS : Hid (signOf (ts.drop c) = if ts[c].kind = 3 then ts[c].text else []) := by unfold Hid; rw [drop_tok hlt]; rfl
    clear hts hcs hR
    have hne : ¬ b = Q := by omega
    generalize ts[c].kind = kd at *
    generalize ts[c].text = tx at *
    by_cases h3 : kd = 3
    · have e3 : (kd == 3) = true := by simpa using h3
      rw [if_pos h3] at HS
      rw [HS.out]
      go_enter Tryd.func36, Tryd.ntmps36
      go_wp2
      go_quiet (fail)
      go_wp2
      go_quiet (fail)
      go_wp2
      go_ret
      exact ⟨rfl, (Go.Joins.below_draws _ _ _).trans (Go.Joins.below_draws _ _ _)⟩
    · have e3 : (kd == 3) = false := by simpa using h3
      rw [if_neg h3] at HS
      rw [HS.out]
      go_enter Tryd.func36, Tryd.ntmps36
      go_wp2
      go_quiet (fail)
      go_wp2
      go_ret
      exact ⟨rfl, Go.Joins.below_draws _ _ _⟩
  · have e0 : decide ((c : Int) < (ts.length : Int)) = false := by simp; omega
    rw [List.drop_eq_nil_of_le (by omega)]
    clear hts hR
    go_enter Tryd.func36, Tryd.ntmps36
    go_wp2
    go_quiet (fail)
    go_wp2
    go_ret
    exact ⟨rfl, Go.Joins.below_draws _ _ _⟩

theorem info_errno : ∃ i, Tryd.prog.info? 27 = some i ∧ i.zero = some (.int .i64 0) ∧ i.size = 1 ∧ i.bytes = 8 := by
  have h : (Tryd.prog.info? 27).map (fun i => (i.zero, i.size, i.bytes)) = some (some (.int .i64 0), 1, 8) := by kernel_rfl
  obtain ⟨i, hi, e⟩ := Option.map_eq_some_iff.1 h
  simp only [Prod.mk.injEq] at e
  exact ⟨i, hi, e.1, e.2.1, e.2.2⟩

theorem new1 {w : World} {n : Nat} {t : TypeId} (h : w.heap.size = n) (a : Value) : ∀ j u, [a][j]? = some u → (w.alloc (.cells #[a] t)).cell? ((⟨n, 0, none⟩ : Addr).add j) = some u := by
  intro j u hj
  match j, hj with
  | 0, hj => simp at hj; subst hj; exact cell_at h rfl

/-- All blocks below N but Q are as they were. -/
structure GQ (Q N : Nat) (w w' : World) : Prop where
  os : w'.os = w.os
  tape : w'.tape = w.tape
  output : w'.output = w.output
  size : w.heap.size ≤ w'.heap.size
  block : ∀ k, k < N → k ≠ Q → w'.heap[k]? = w.heap[k]?

set_option maxHeartbeats 2000000 in
theorem bad_any (y : Int) (Q N : Nat) (ts : List Tok) (c : Nat) (es : List Int) (w : World) (hR : PRd w Q N ts c es) (hN : N ≤ w.heap.size) (hes : es.length ≤ 100) :
    Calls Tryd.prog 48 #[.pointer (some ⟨Q, 0, none⟩), .int .i64 y] w fun e w' => e = .returned exZ ∧ PRd w' Q N ts c (es ++ [y]) ∧ GQ Q N w w' := by
  obtain ⟨ev, hev, hown⟩ := hR.errs
  obtain ⟨i0, hi, hz0, hz1, hz2⟩ := info_errno
  have hlow := hR.low
  have hlt := hR.lt
  have hfr2 := hR.fr2
  obtain ⟨ea, ec, rfl⟩ := owns_shape hown
  have HO : Hid (w.ownsRow N 27 1 (.slice ea es.length ec) es.length (errVs es)) := hown
  have HR : Hid (PRd w Q N ts c es) := hR
  clear hown hR
  have hmax : es.length + 1 ≤ maxLen := by unfold maxLen; omega
  go_enter Tryd.func48, Tryd.ntmps48
  go_wp2_with (first
    | (at_builtin; refine wpList_append_own _ rfl _ _ 51 rfl N 27 i0 _ 1 8 Tryd.underlying51 hi hz0 hz1 hz2 rfl (by decide) _ _ _ rfl ((HO.out.alloc _).alloc _) ⟨w.heap.size + 1, 0, none⟩ 1 1 [.int .i64 y] rfl rfl (new1 (by simp) _) (by intro u hu; simp at hu; subst hu; rfl) hmax (by omega) (by simp; omega) ?_)
    | go_in)
  intro v' w3 hown3 hgrow _
  obtain ⟨va, vc, rfl⟩ := owns_shape hown3
  have hg : ∀ k, k < w.heap.size + 2 → (k < N ∨ w.heap.size ≤ k) → w3.heap[k]? = ((w.alloc (.cells #[.int .i64 0, .int .i64 0, .string ⟨#[]⟩, .slice none 0 0] 25)).alloc (.cells #[.int .i64 y] 27)).heap[k]? := fun k hk hkN => hgrow.block k (by simp; omega) (by
    intro e
    have := HO.out.lt k e.symm
    omega)
  have hgo : ∀ k, k < N → w3.heap[k]? = w.heap[k]? := fun k hk => by
    rw [hg k (by omega) (Or.inl hk), Below.heap_alloc _ _ _ (by simp; omega), Below.heap_alloc _ _ _ (by omega)]
  have hzs : w.heap.size + 1 < w3.heap.size := by have := hgrow.size; simp at this; omega
  obtain ⟨⟨x0, x1, x2, x3⟩, f0, f1, f2, f3⟩ := ((var4_new w (.int .i64 0) (.int .i64 0) (.string ⟨#[]⟩) (.slice none 0 0) 25).alloc (by simp) (.cells #[.int .i64 y] 27)).keep (hg w.heap.size (by omega) (Or.inr (Nat.le_refl _)))
  have hc2 : w3.cell? ⟨Q, 2, none⟩ = some (.slice ea es.length ec) := by rw [World.cell?_of_block (w := w) (hgo Q hlow)]; exact hev
  have hf2 : w3.frozen? ⟨Q, 2, none⟩ = false := by rw [World.frozen?_of_block (w := w) (hgo Q hlow)]; exact hfr2
  have HG : Hid (GQ Q N w w3) := ⟨hgrow.os, hgrow.tape, hgrow.output, by omega, fun k hk _ => hgo k hk⟩
  have HO3 : Hid (w3.ownsRow N 27 1 (.slice va (es.length + 1) vc) (es.length + 1) (errVs es ++ [.int .i64 y])) := hown3
  have HGO : Hid (∀ k, k < N → w3.heap[k]? = w.heap[k]?) := hgo
  have hne : ¬ Q = w.heap.size := by omega
  have HRB : Hid (w3.heap[w.heap.size]? = some (.cells #[.int .i64 0, .int .i64 0, .string ⟨#[]⟩, .slice none 0 0] 25 (0, 0))) := by
    unfold Hid
    rw [hg w.heap.size (by omega) (Or.inr (Nat.le_refl _)), Below.heap_alloc _ _ _ (by simp)]
    exact heap_alloc_new w _
  clear hgrow hown3 hg hgo HO hev hfr2
  go_wp2
  refine bodyPost_ret (v := .agg #[.int .i64 0, .int .i64 0, .string ⟨#[]⟩, .slice none 0 0]) (by simp [results, Tryd.results48, go_sem, x0, x1, x2, x3]) rfl ⟨rfl, ?_, ?_⟩
  · have hR := HR.out
    have hb : ∀ b, b < Q → ((((((w3.setCell ⟨Q, 2, none⟩ (.slice va (es.length + 1) vc)).setCell ⟨w.heap.size, 0, none⟩ (.int .i64 0)).setCell ⟨w.heap.size, 1, none⟩ (.int .i64 0)).setCell ⟨w.heap.size, 2, none⟩ (.string ⟨#[]⟩)).setCell ⟨w.heap.size, 3, none⟩ (.slice none 0 0))).heap[b]? = w.heap[b]? := fun b hb => by
      rw [Below.heap_setCell _ _ _ _ (by show b ≠ w.heap.size; omega), Below.heap_setCell _ _ _ _ (by show b ≠ w.heap.size; omega), Below.heap_setCell _ _ _ _ (by show b ≠ w.heap.size; omega), Below.heap_setCell _ _ _ _ (by show b ≠ w.heap.size; omega), Below.heap_setCell _ _ _ _ (by show b ≠ Q; omega)]
      exact HGO.out b (by omega)
    have hQ4 : ((((((w3.setCell ⟨Q, 2, none⟩ (.slice va (es.length + 1) vc)).setCell ⟨w.heap.size, 0, none⟩ (.int .i64 0)).setCell ⟨w.heap.size, 1, none⟩ (.int .i64 0)).setCell ⟨w.heap.size, 2, none⟩ (.string ⟨#[]⟩)).setCell ⟨w.heap.size, 3, none⟩ (.slice none 0 0))).heap[Q]? = (w3.setCell ⟨Q, 2, none⟩ (.slice va (es.length + 1) vc)).heap[Q]? := by
      rw [Below.heap_setCell _ _ _ _ (by exact hne), Below.heap_setCell _ _ _ _ (by exact hne), Below.heap_setCell _ _ _ _ (by exact hne), Below.heap_setCell _ _ _ _ (by exact hne)]
    have h3Q := HGO.out Q hlow
    have cQ : ∀ o, o ≠ 2 → ((((((w3.setCell ⟨Q, 2, none⟩ (.slice va (es.length + 1) vc)).setCell ⟨w.heap.size, 0, none⟩ (.int .i64 0)).setCell ⟨w.heap.size, 1, none⟩ (.int .i64 0)).setCell ⟨w.heap.size, 2, none⟩ (.string ⟨#[]⟩)).setCell ⟨w.heap.size, 3, none⟩ (.slice none 0 0))).cell? ⟨Q, o, none⟩ = w.cell? ⟨Q, o, none⟩ := fun o ho => by
      rw [World.cell?_of_block (w := w3.setCell ⟨Q, 2, none⟩ (.slice va (es.length + 1) vc)) (a := ⟨Q, o, none⟩) hQ4, off_other _ _ _ (Ne.symm ho), World.cell?_of_block (w := w) (a := ⟨Q, o, none⟩) h3Q]
    have fQ : ∀ o, ((((((w3.setCell ⟨Q, 2, none⟩ (.slice va (es.length + 1) vc)).setCell ⟨w.heap.size, 0, none⟩ (.int .i64 0)).setCell ⟨w.heap.size, 1, none⟩ (.int .i64 0)).setCell ⟨w.heap.size, 2, none⟩ (.string ⟨#[]⟩)).setCell ⟨w.heap.size, 3, none⟩ (.slice none 0 0))).frozen? ⟨Q, o, none⟩ = w.frozen? ⟨Q, o, none⟩ := fun o => by
      simp only [World.frozen?_setCell]
      exact World.frozen?_of_block (w := w) (a := ⟨Q, o, none⟩) h3Q
    refine ⟨hR.le, hR.few, by simp; omega, hlow, by rw [cQ 1 (by decide)]; exact hR.cnt, by rw [fQ]; exact hR.fr1, by rw [fQ]; exact hR.fr2, ⟨.slice va (es.length + 1) vc, ?_, ?_⟩, ?_⟩
    · rw [World.cell?_of_block (w := w3.setCell ⟨Q, 2, none⟩ (.slice va (es.length + 1) vc)) (a := ⟨Q, 2, none⟩) hQ4]
      exact World.cell?_setCell_same _ _ _ hc2
    · have e1 : errVs (es ++ [y]) = errVs es ++ [.int .i64 y] := by simp [errVs]
      rw [List.length_append, e1]
      refine ⟨HO3.out.1, ?_⟩
      rcases HO3.out.2 with ⟨_, h0⟩ | ⟨g, cap, cur, e2, hgN, hcur, rest⟩
      · omega
      · refine Or.inr ⟨g, cap, cur, e2, hgN, ?_, rest⟩
        have hgR : g ≠ w.heap.size := by
          rintro rfl
          have := HRB.out.symm.trans hcur
          simp at this
        rw [Below.heap_setCell _ _ _ _ (by exact hgR), Below.heap_setCell _ _ _ _ (by exact hgR), Below.heap_setCell _ _ _ _ (by exact hgR), Below.heap_setCell _ _ _ _ (by exact hgR), Below.heap_setCell _ _ _ _ (by show g ≠ Q; omega)]
        exact hcur
    · obtain ⟨ad, cap, h0, h1⟩ := hR.toks
      refine ⟨ad, cap, by rw [cQ 0 (by decide)]; exact h0, fun hp => ?_⟩
      obtain ⟨b, o, e, hl, hcs⟩ := h1 hp
      refine ⟨b, o, e, hl, fun i hi => ?_⟩
      rw [World.cell?_of_block (w := w) (a := ⟨b, o + i * 3, none⟩) (hb b hl), World.cell?_of_block (w := w) (a := ⟨b, o + i * 3 + 1, none⟩) (hb b hl), World.cell?_of_block (w := w) (a := ⟨b, o + i * 3 + 2, none⟩) (hb b hl)]
      exact hcs i hi
  · have h := HG.out
    refine ⟨h.os, h.tape, h.output, by simp; omega, fun k hk hkQ => ?_⟩
    rw [Below.heap_setCell _ _ _ _ (by show k ≠ w.heap.size; omega), Below.heap_setCell _ _ _ _ (by show k ≠ w.heap.size; omega), Below.heap_setCell _ _ _ _ (by show k ≠ w.heap.size; omega), Below.heap_setCell _ _ _ _ (by show k ≠ w.heap.size; omega), Below.heap_setCell _ _ _ _ (by exact hkQ)]
    exact h.block k hk hkQ

end Go.Proofs.YtibenegbjpoclabDoor
