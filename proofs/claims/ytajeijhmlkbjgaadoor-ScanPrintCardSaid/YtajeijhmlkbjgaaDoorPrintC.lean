/- The walk of ScanPrint. -/
import Derived.Test.YtajeijhmlkbjgaaDoorPrintB
namespace Go.Proofs.YtajeijhmlkbjgaaDoor
open Go.RowKit

theorem nextT_text {l r : List UInt8} {t : Tok} (h : nextT l = .tok t r) : t.text.length ≤ l.length := by
  cases l with
  | nil => simp [nextT] at h
  | cons c tl =>
    rw [nextT_cons] at h
    split at h
    · injection h with h1 _
      subst h1
      exact spanL_le wordB (c :: tl)
    · split at h
      · split at h
        · cases h
        · injection h with h1 _
          subst h1
          simp
      · split at h
        · cases h
        · injection h with h1 _
          subst h1
          simp only [List.length_take]
          omega

theorem toksF_text : ∀ (f : Nat) (l : List UInt8) (ts : List Tok), toksF f l = some ts → ∀ t, t ∈ ts → t.text.length ≤ l.length
  | 0, _, _, h => by simp [toksF] at h
  | f + 1, l, ts, h => by
    unfold toksF at h
    have hd := dropWhile_len (p := pb blankB) l
    split at h
    · simp at h; subst h; intro t ht; simp at ht
    · cases h
    · rename_i t r hn
      obtain ⟨ts', h1, rfl⟩ := Option.map_eq_some_iff.1 h
      have hr := nextT_len hn
      intro t' ht'
      rcases List.mem_cons.1 ht' with rfl | ht'
      · have := nextT_text hn; omega
      · have := toksF_text f r ts' h1 t' ht'; omega

theorem list_some {l : List UInt8} {t : Tok} (ht : t ∈ lineList l) : l.length ≤ 80 ∧ t.text.length ≤ 80 := by
  unfold lineList lineToks at ht
  split at ht
  · simp at ht
  · rename_i hlen
    have hc := code_len l
    cases h : toks (code l) with
    | none => rw [h] at ht; simp at ht
    | some ts =>
      rw [h] at ht
      have := toksF_text _ _ ts h t ht
      omega

theorem list_len (l : List UInt8) : (lineList l).length ≤ 80 := by
  unfold lineList lineToks
  split
  · simp
  · rename_i hlen
    have hc := code_len l
    cases h : toks (code l) with
    | none => simp
    | some ts =>
      have := toks_count _ _ ts h
      simp
      omega

theorem good_n {t : Tok} (h : Good t) : 0 ≤ t.n ∧ t.n ≤ 4294967295 := by
  rcases h with ⟨c, r, rfl, _⟩ | ⟨u, rfl, hu⟩ | ⟨l, rfl, _⟩
  · simp
  · simp; omega
  · simp

theorem list_fits (l : List UInt8) : Fits (lineList l) := by
  intro i hi
  have := good_n (list_good l _ (List.getElem_mem hi))
  omega

theorem pr_len {l : List UInt8} {t : Tok} (ht : t ∈ lineList l) : (prT t).length ≤ 100 := by
  have hb := good_n (list_good l t ht)
  have hx := (list_some ht).2
  unfold prT
  split
  · have := Lib.itoa_length_le t.n (by omega) (by omega); omega
  · omega

theorem tail_len : ∀ ts : List Tok, (∀ t, t ∈ ts → (prT t).length ≤ 100) → (tailL ts).length ≤ 101 * ts.length
  | [], _ => by simp [tailL, Lib.joinTail]
  | t :: r, h => by
    have ih := tail_len r (fun t' ht' => h t' (by simp [ht']))
    have := h t (by simp)
    rw [tailL_cons]
    simp only [List.length_cons, List.length_append]
    omega

theorem print_len (l : List UInt8) : (printL (lineList l)).length ≤ 10000 := by
  have hl := list_len l
  have hp : ∀ t, t ∈ lineList l → (prT t).length ≤ 100 := fun t ht => pr_len ht
  cases h : lineList l with
  | nil => simp [printL, Lib.join, List.intercalate]
  | cons t r =>
    rw [h] at hl hp
    have h1 := hp t (by simp)
    have h2 := tail_len r (fun t' ht' => hp t' (by simp [ht']))
    simp only [List.length_cons] at hl
    rw [printL_cons, List.length_append]
    omega

set_option maxHeartbeats 1000000 in
theorem scanPrint_any (s : ByteArray) (w : World) (hG : Glob w) :
    Calls Tryd.prog 7 #[.string s] w fun e w' => e = .returned (.bool true) ∧ Below w.heap.size w w' := by
  have hsz := hG.sz
  go_enter Tryd.func7, Tryd.ntmps7
  go_wp2_with fail
  refine (alive_any w hG).mono ?_
  rintro e w1 ⟨rfl, hb1⟩
  have hG1 : Glob w1 := hG.below hb1 hsz
  go_wp2_with fail
  refine (tokens_any s w1 hG1).mono ?_
  rintro e w2 ⟨⟨tv, rfl, hown⟩, hb2⟩
  have hb12 : Below w.heap.size w w2 := hb1.trans (hb2.mono hb1.size)
  have hG2 : Glob w2 := hG.below hb12 hsz
  have htr := reads_of_owns hown
  by_cases he : lineErr s.data.toList = 0
  · rw [he]
    have HTR : Hid (TReads w2 tv (lineList s.data.toList)) := htr
    have HB : Hid (Below w.heap.size w w2) := hb12
    obtain ⟨P, hP⟩ : ∃ P : ByteArray, P = ⟨(printL (lineList s.data.toList)).toArray⟩ := ⟨_, rfl⟩
    have hPl : P.data.toList = printL (lineList s.data.toList) := by rw [hP]
    have hPs := size_of hPl
    have hpr := print_any tv _ w2 hG2 htr (by have := list_len s.data.toList; omega) (list_fits _) (by have := print_len s.data.toList; omega)
    rw [← hP] at hpr
    clear hP hown hb1 hb2 hb12 htr
    go_wp2_with fail
    refine hpr.mono ?_
    rintro e w3 ⟨rfl, hb3⟩
    have hG3 : Glob w3 := hG2.below hb3 hG2.sz
    clear hpr
    go_wp2_with fail
    refine (tokens_any P w3 hG3).mono ?_
    rintro e w4 ⟨⟨tv4, rfl, hown4⟩, hb4⟩
    have HB4 : Hid (Below w.heap.size w w4) := (HB.out.trans (hb3.mono HB.out.size)).trans (hb4.mono (by have := HB.out.size; have := hb3.size; omega))
    by_cases hlen : P.size ≤ 80
    · have hps := print_short s.data.toList (by omega)
      rw [← hPl] at hps
      rw [hps.2] at hown4
      rw [hps.1]
      have ha : TReads w4 tv (lineList s.data.toList) := (HTR.out.below hb3 (Nat.le_refl _)).below hb4 (Nat.le_refl _)
      have hb' := reads_of_owns hown4
      have hst := sameTokens_true tv tv4 _ w4 ha hb'
      have hl' : ¬ (80 : Int) < P.size := by omega
      clear hb3 hb4 hown4 hps ha hb' HTR hG1 hG2 hG3 hG
      go_wp2_with fail
      refine hst.mono ?_
      rintro e w5 ⟨rfl, hb5⟩
      have HB5 : Hid (Below w.heap.size w w5) := HB4.out.trans (hb5.mono HB4.out.size)
      clear hst hb5
      go_wp2
      go_ret
      exact ⟨rfl, HB5.out⟩
    · have hl' : (80 : Int) < P.size := by omega
      have hm := line_much (l := P.data.toList) (by have := size_of (rfl : P.data.toList = _); omega)
      rw [hm.1]
      clear hb3 hb4 hown4 HTR hG1 hG2 hG3 hG hm
      go_wp2
      go_ret
      exact ⟨rfl, HB4.out⟩
  · have hl0 : lineList s.data.toList = [] := by
      unfold lineErr at he
      unfold lineList lineToks
      split at he
      · rename_i h; rw [if_pos h]; rfl
      · rename_i h
        rw [if_neg h]
        cases hx : toks (code s.data.toList) with
        | none => rfl
        | some ts => rw [hx] at he; simp at he
    rw [hl0] at htr
    obtain ⟨ad, cap, rfl, _⟩ := htr
    have he' : (lineErr s.data.toList == 0) = false := by simpa using he
    generalize lineErr s.data.toList = E at *
    clear hown hb1 hb2 hG1 hG2 hG
    simp only [List.length_nil]
    go_wp2
    go_ret
    exact ⟨rfl, hb12⟩

end Go.Proofs.YtajeijhmlkbjgaaDoor
