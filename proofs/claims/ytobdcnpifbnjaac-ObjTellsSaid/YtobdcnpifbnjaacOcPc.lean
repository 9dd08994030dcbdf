/- The contract of the program's own Parse of bytes that begin with the mark. -/
import Derived.Test.YtobdcnpifbnjaacOcPb
namespace Go.Proofs.Ytobdcnpifbnjaac
open Go.RowKit

set_option maxHeartbeats 8000000 in
theorem parse_rest (l : List UInt8) (v : Value) (w : World) (hv : RB w w.heap.size v l) (hl : l.length ≤ 140737488355328) (hm : (dT 3 l false).1 = [79, 66, 74]) :
    Calls Try.prog 10 #[v] w fun e w' => ParseEnd w l e w' := by
  have hdt : dT 3 l false = ([79, 66, 74], l.drop 3, false) := by
    by_cases h3 : 3 ≤ l.length
    · have e : dT 3 l false = (l.take 3, l.drop 3, false) := by unfold dT; rw [if_pos h3]
      rw [e] at hm ⊢
      simp only at hm
      rw [hm]
    · have e : dT 3 l false = ([], l, true) := by unfold dT; rw [if_neg h3]
      rw [e] at hm
      cases hm
  obtain ⟨S, hS⟩ : ∃ S, S = steps (l.drop 3) := ⟨_, rfl⟩
  have HP : Hid (parseO nameR l = match readAll (l.drop 3) with
      | none => .error 2
      | some o => if wrongO nameR o = 0 then .ok o else .error (wrongO nameR o)) := by unfold Hid parseO; rw [readO_mark, if_pos hm]; rfl
  have HR : Hid (readAll (l.drop 3) = if S.a7.2.2 = true ∨ S.a7.2.1 ≠ [] then none else some ⟨S.a3.1, S.a5.1, S.a7.1⟩) := by unfold Hid readAll; rw [← hS]
  obtain ⟨a2, h2⟩ : ∃ a, a = dN 4 (l.drop 3) false := ⟨_, rfl⟩
  obtain ⟨a3, h3⟩ : ∃ a, a = dT a2.1 a2.2.1 a2.2.2 := ⟨_, rfl⟩
  obtain ⟨a5, h5⟩ : ∃ a, a = dMany dSym (dN 4 a3.2.1 a3.2.2).1 (dN 4 a3.2.1 a3.2.2).2.1 (dN 4 a3.2.1 a3.2.2).2.2 := ⟨_, rfl⟩
  obtain ⟨a7, h7⟩ : ∃ a, a = dMany dRel (dN 4 a5.2.1 a5.2.2).1 (dN 4 a5.2.1 a5.2.2).2.1 (dN 4 a5.2.1 a5.2.2).2.2 := ⟨_, rfl⟩
  have hSS : S = ⟨a2, a3, a5, a7⟩ := by rw [hS]; unfold steps; simp only [← h2, ← h3, ← h5, ← h7]
  rw [hSS] at HR
  simp only at HR
  have HNM : Hid (∀ x, x ∈ a5.1.take 256 → x.name.length ≤ maxLen) := fun x hx => by
    have := dMany_names (f := dSym) (P := fun x => x.name.length ≤ 255) (fun l s => dName_len l s) _ _ _ x (h5 ▸ List.mem_of_mem_take hx)
    unfold maxLen
    omega
  have HF3 : Hid (∀ W Q, DR W Q a2.2.1 a2.2.2 → a3.1.length ≤ 140737488355328) := fun W Q hd => by
    have := hd.few
    rw [h3]
    unfold dT
    split <;> simp; omega
  obtain ⟨ad, cap, rfl, z⟩ := hv
  have hd := DR_new ⟨ad, cap, rfl, z⟩ hl (.cells #[.slice none 0 0, .slice none 0 0, .slice none 0 0] 26) rfl
  have ht := take_any (w.heap.size + 1) l false 3 _ hd
  rw [hdt] at ht
  simp only at ht
  have H2 := Lib.hid (fun W hd => dnum4 (w.heap.size + 1) (l.drop 3) false W hd)
  have H3 := Lib.hid (fun W hd => take_any (w.heap.size + 1) a2.2.1 a2.2.2 a2.1 W hd)
  have H5 := Lib.hid (fun W hd => listS_any (w.heap.size + 1) a3.2.1 a3.2.2 W hd)
  have H7 := Lib.hid (fun W hd => listR_any (w.heap.size + 1) a5.2.1 a5.2.2 W hd)
  rw [← h2] at H2
  rw [← h3] at H3
  rw [← h5] at H5
  rw [← h7] at H7
  clear z hl hm hd hdt h2 h3 h5 h7 hS hSS
  generalize l.drop 3 = r at *
  go_enter Try.func10, Try.ntmps10
  go_wp2_with fail
  refine ht.mono ?_
  rintro e w1 ⟨v1, rfl, hv1, hd1, hg1⟩
  have hcv := oconv (hv1.bytes (Nat.le_of_lt hd1.lt) (by unfold maxLen; decide))
  have HN1 := Lib.hid (grown_block (b := w.heap.size) hg1 (by rw [Below.heap_alloc _ _ _ (by simp)]; exact heap_alloc_new w _) (by omega))
  have HB1 : Hid (Below w.heap.size w w1) := (((oalloc w _).alloc (by simp) _)).grown hg1 (by simp; omega) (fun j hj => by cases hj; omega)
  have H21 := Lib.hid (H2.out w1 hd1)
  clear hv1 hd1 hg1 ht H2
  go_wp2_with fail
  refine H21.out.mono ?_
  rintro e w2 ⟨rfl, hd2, hg2⟩
  have hz1 : w.heap.size < w1.heap.size := (Array.getElem?_eq_some_iff.1 HN1.out).1
  have HN2 := Lib.hid (grown_block (b := w.heap.size) hg2 HN1.out (by omega))
  have HB2 : Hid (Below w.heap.size w w2) := HB1.out.grown hg2 (by omega) (fun j hj => by cases hj; omega)
  have H32 := Lib.hid (H3.out w2 hd2)
  have hF := HF3.out w2 _ hd2
  clear hd2 hg2 H21 H3 HN1 HB1 hcv HF3
  go_wp2_with fail
  refine H32.out.mono ?_
  rintro e w3 ⟨v3, rfl, hv3, hd3, hg3⟩
  have hz2 : w.heap.size < w2.heap.size := (Array.getElem?_eq_some_iff.1 HN2.out).1
  have hn3 := grown_block (b := w.heap.size) hg3 HN2.out (by omega)
  have hz3 : w.heap.size + 1 < w3.heap.size := hd3.lt
  obtain ⟨ad3, cap3, rfl, hs3⟩ := hv3
  have HPK0 : Hid (PK w (w3.alloc (.cells #[.slice ad3 a3.1.length cap3, .slice none 0 0, .slice none 0 0] 26)) w3.heap.size (.slice ad3 a3.1.length cap3) (.slice none 0 0) (.slice none 0 0) a3.1 [] [] a3.2.1 a3.2.2) := by
    refine ⟨(HB2.out.grown hg3 (by omega) (fun j hj => by cases hj; omega)).alloc (by omega) _, ?_, heap_alloc_new _ _, hz3, ?_, World.ownsRow_nil _ _ _ _, World.ownsRow_nil _ _ _ _, hd3.alloc _⟩
    · rw [Below.heap_alloc _ _ _ (by omega)]; exact hn3
    · exact (show RB w3 _ _ _ from ⟨ad3, cap3, rfl, hs3⟩).keep fun b hb => Below.heap_alloc _ _ _ (by omega)
  clear hs3 hd3 hg3 hn3 H32 HN2 HB2 hz1 hz2
  go_wp2_with fail
  refine (H5.out _ HPK0.out.dr).mono ?_
  rintro e w5 ⟨v5, rfl, ho5, hd5, hg5⟩
  have HPK5 := Lib.hid (HPK0.out.sym ho5 hd5 hg5)
  obtain ⟨ad5, cap5, rfl⟩ := row_shape ho5
  have hb5 := grown_block (b := w3.heap.size) hg5 (heap_alloc_new _ _) (by omega)
  have x1 := cell_of_block (i := 1) hb5 rfl
  have f1 : w5.frozen? ⟨w3.heap.size, 1, none⟩ = false := by unfold World.frozen?; simp only [hb5]; rfl
  clear ho5 hd5 hg5 hb5 HPK0 H5
  obtain ⟨xs5, hx5⟩ : ∃ x, x = a5.1.take 256 := ⟨_, rfl⟩
  rw [← hx5] at HPK5 HNM
  have HX5 := Lib.hid hx5
  have hl5 : xs5.length = (a5.1.take 256).length := by rw [hx5]
  rw [← hl5]
  clear hx5 hl5
  go_wp2_with fail
  refine (H7.out _ HPK5.out.dr).mono ?_
  rintro e w7 ⟨v7, rfl, ho7, hd7, hg7⟩
  have HPK7 := Lib.hid (HPK5.out.rel ho7 hd7 hg7)
  obtain ⟨ad7, cap7, rfl⟩ := row_shape ho7
  have hb7 := grown_block (b := w3.heap.size) hg7 HPK5.out.m (by omega)
  have y2 := cell_of_block (i := 2) hb7 rfl
  have f2 : w7.frozen? ⟨w3.heap.size, 2, none⟩ = false := by unfold World.frozen?; simp only [hb7]; rfl
  have m0 := cell_of_block (i := 0) hb7 rfl
  have m1 := cell_of_block (i := 1) hb7 rfl
  have hn7 := grown_block (b := w.heap.size) hg7 HPK5.out.n (by omega)
  have n0 := cell_of_block (i := 0) hn7 rfl
  have n1 := cell_of_block (i := 1) hn7 rfl
  have n2 := cell_of_block (i := 2) hn7 rfl
  have g0 : w7.frozen? ⟨w.heap.size, 0, none⟩ = false := by unfold World.frozen?; simp only [hn7]; rfl
  have g1 : w7.frozen? ⟨w.heap.size, 1, none⟩ = false := by unfold World.frozen?; simp only [hn7]; rfl
  have g2 : w7.frozen? ⟨w.heap.size, 2, none⟩ = false := by unfold World.frozen?; simp only [hn7]; rfl
  obtain ⟨adq, capq, hq7, zq⟩ := hd7.blk
  have q0 := cell_of_block (i := 0) hq7 rfl
  have q1 := cell_of_block (i := 1) hq7 rfl
  obtain ⟨rs7, hx7⟩ : ∃ x, x = a7.1.take 16001 := ⟨_, rfl⟩
  rw [← hx7] at HPK7
  have HX7 := Lib.hid hx7
  have hl7 : rs7.length = (a7.1.take 16001).length := by rw [hx7]
  rw [← hl7]
  have hne1 : ¬ w3.heap.size = w.heap.size := by omega
  have hne2 : ¬ w3.heap.size = w.heap.size + 1 := by omega
  have hne3 : ¬ w.heap.size = w3.heap.size := by omega
  have hne4 : ¬ w.heap.size + 1 = w3.heap.size := by omega
  clear ho7 hd7 hg7 hb7 hn7 hq7 zq HPK5 H7 x1 f1 hx7 hl7
  by_cases hsh : a7.2.2 = true
  · have HE : Hid (parseO nameR l = .error 2) := by unfold Hid; rw [HP.out, HR.out, if_pos (.inl hsh)]
    rw [hsh] at q1
    have HB := Lib.hid HPK7.out.bel
    clear HP HR HNM HX5 HX7 HPK7 hsh
    go_wp2
    exact bodyPost_ret (v := .tuple #[obZ, .int .i64 2]) (by simp [results, Try.results10, go_sem, n0, n1, n2, obZ, obV]) rfl
      ⟨((HB.out.setCell (Nat.le_refl _) _).setCell (Nat.le_refl _) _).setCell (Nat.le_refl _) _, by rw [HE.out]⟩
  · have hsh2 : a7.2.2 = false := by simpa using hsh
    rw [hsh2] at q1
    by_cases hrest : 0 < a7.2.1.length
    · have hrest1 : (0 : Int) < a7.2.1.length := by omega
      have HE : Hid (parseO nameR l = .error 2) := by
        unfold Hid
        rw [HP.out, HR.out, if_pos (.inr (fun h => by rw [h] at hrest; simp at hrest))]
      have HB := Lib.hid HPK7.out.bel
      clear HP HR HNM HX5 HX7 HPK7 hsh hsh2
      go_wp2
      exact bodyPost_ret (v := .tuple #[obZ, .int .i64 2]) (by simp [results, Try.results10, go_sem, n0, n1, n2, obZ, obV]) rfl
        ⟨((HB.out.setCell (Nat.le_refl _) _).setCell (Nat.le_refl _) _).setCell (Nat.le_refl _) _, by rw [HE.out]⟩
    · have hrest1 : ¬ (0 : Int) < a7.2.1.length := by omega
      have hrl : a7.2.1.length = 0 := by omega
      have HE : Hid (parseO nameR l = if wrongO nameR ⟨a3.1, a5.1, a7.1⟩ = 0 then .ok ⟨a3.1, a5.1, a7.1⟩ else .error (wrongO nameR ⟨a3.1, a5.1, a7.1⟩)) := by
        unfold Hid
        rw [HP.out, HR.out, if_neg (by rw [hsh2]; simp [List.eq_nil_of_length_eq_zero hrl])]
      have HWT : Hid (wrongO nameR ⟨a3.1, xs5, rs7⟩ = wrongO nameR ⟨a3.1, a5.1, a7.1⟩) := by unfold Hid; rw [HX5.out, HX7.out, wrong_take]
      have hcall := wrong_any ⟨a3.1, xs5, rs7⟩ (.slice ad3 a3.1.length cap3) (.slice ad5 xs5.length cap5) (.slice ad7 rs7.length cap7) _ (HPK7.out.code.bytes (by have := HPK7.out.lt; omega) (by unfold maxLen; omega)) (ownS_row HPK7.out.syms) (ownR_row HPK7.out.rels) HNM.out
      have HOWN : Hid (∀ w8, Below (w7.setCell ⟨w3.heap.size, 2, none⟩ (.slice ad7 rs7.length cap7)).heap.size (w7.setCell ⟨w3.heap.size, 2, none⟩ (.slice ad7 rs7.length cap7)) w8 → xs5.length ≤ 255 → rs7.length ≤ 16000 →
          Calls Try.prog 9 #[obV (.slice ad3 a3.1.length cap3) (.slice ad5 xs5.length cap5) (.slice ad7 rs7.length cap7)] w8 fun e w' => ∃ g1 g2 g3, e = .returned (obV (.slice (some ⟨g1, 0, none⟩) a3.1.length a3.1.length) (.slice (some ⟨g2, 0, none⟩) xs5.length xs5.length) (.slice (some ⟨g3, 0, none⟩) rs7.length rs7.length)) ∧ Below w8.heap.size w8 w' ∧
            Hid (∀ W, Since w8 w' W → OBytes W (.slice (some ⟨g1, 0, none⟩) a3.1.length a3.1.length) a3.1 ∧ OSyms W (.slice (some ⟨g2, 0, none⟩) xs5.length xs5.length) xs5 ∧ ORels W (.slice (some ⟨g3, 0, none⟩) rs7.length rs7.length) rs7)) := fun w8 hb8 hl1 hl2 =>
        own_far ⟨a3.1, xs5, rs7⟩ _ _ _ w8 ((HPK7.out.code.bytes (by have := HPK7.out.lt; omega) (by unfold maxLen; omega)).below hb8 (Nat.le_refl _)) ((ownS_row HPK7.out.syms).below hb8 (Nat.le_refl _)) ((ownR_row HPK7.out.rels).below hb8 (Nat.le_refl _)) hF (by show xs5.length * 24 ≤ _; omega) (by show rs7.length * 40 ≤ _; omega)
      rw [HWT.out] at hcall
      clear HP HR HNM hsh hsh2 hrest hrl
      generalize hW7 : wrongO nameR ⟨a3.1, a5.1, a7.1⟩ = er at *
      have HW7 := Lib.hid hW7
      have HC := Lib.hid hcall
      clear hW7 hcall
      go_wp2_with fail
      refine HC.out.mono ?_
      rintro e w8 ⟨rfl, hb8⟩
      have hz7 : w3.heap.size < (w7.setCell ⟨w3.heap.size, 2, none⟩ (.slice ad7 rs7.length cap7)).heap.size := HPK7.out.lt
      have hn8 : w8.heap[w.heap.size]? = some (.cells #[.slice none 0 0, .slice none 0 0, .slice none 0 0] 26 (0, 0)) := by rw [hb8.block _ (by omega)]; exact HPK7.out.n
      have hm8 := HPK7.out.m
      rw [← hb8.block _ hz7] at hm8
      have HB8 : Hid (Below w.heap.size w w8) := HPK7.out.bel.trans (hb8.mono HPK7.out.bel.size)
      clear n0 n1 n2 g0 g1 g2 m0 m1 q0 q1 y2 f2 HC
      have n0 := cell_of_block (i := 0) hn8 rfl
      have n1 := cell_of_block (i := 1) hn8 rfl
      have n2 := cell_of_block (i := 2) hn8 rfl
      by_cases her : er = 0
      · subst her
        have HL : Hid (a3.1.length ≤ 8000 ∧ xs5.length ≤ 255 ∧ rs7.length ≤ 16000) := wrong_few (o := ⟨a3.1, xs5, rs7⟩) HWT.out
        have HF : Hid (xs5 = a5.1 ∧ rs7 = a7.1) := by
          have h := wrong_few HW7.out
          exact ⟨by rw [HX5.out, List.take_of_length_le (by have := h.2.1; simp only at this; omega)], by rw [HX7.out, List.take_of_length_le (by have := h.2.2; simp only at this; omega)]⟩
        have m0 := cell_of_block (i := 0) hm8 rfl
        have m1 := cell_of_block (i := 1) hm8 rfl
        have m2 := cell_of_block (i := 2) hm8 rfl
        have HO8 := Lib.hid (HOWN.out w8 hb8 HL.out.2.1 HL.out.2.2)
        have HN8 := Lib.hid hn8
        have hz8 : w.heap.size < w8.heap.size := (Array.getElem?_eq_some_iff.1 hn8).1
        rw [if_pos rfl] at HE
        clear HOWN hb8 hn8 hm8 HL HPK7 HX5 HX7 HW7 HWT n0 n1 n2
        go_wp2_with fail
        refine HO8.out.mono ?_
        rintro e w9 ⟨k1, k2, k3, rfl, hb9, HO9⟩
        have hn9 : w9.heap[w.heap.size]? = some (.cells #[.slice none 0 0, .slice none 0 0, .slice none 0 0] 26 (0, 0)) := by rw [hb9.block _ hz8]; exact HN8.out
        have n0 := cell_of_block (i := 0) hn9 rfl
        have n1 := cell_of_block (i := 1) hn9 rfl
        have n2 := cell_of_block (i := 2) hn9 rfl
        have g0 : w9.frozen? ⟨w.heap.size, 0, none⟩ = false := by unfold World.frozen?; simp only [hn9]; rfl
        have g1 : w9.frozen? ⟨w.heap.size, 1, none⟩ = false := by unfold World.frozen?; simp only [hn9]; rfl
        have g2 : w9.frozen? ⟨w.heap.size, 2, none⟩ = false := by unfold World.frozen?; simp only [hn9]; rfl
        have HB9 : Hid (Below w.heap.size w w9) := HB8.out.trans (hb9.mono HB8.out.size)
        clear hb9 hn9 HN8 HB8 HO8 m0 m1 m2
        unfold obV
        go_wp2
        refine bodyPost_ret (v := .tuple #[obV (.slice (some ⟨k1, 0, none⟩) a3.1.length a3.1.length) (.slice (some ⟨k2, 0, none⟩) xs5.length xs5.length) (.slice (some ⟨k3, 0, none⟩) rs7.length rs7.length), .int .i64 0]) (by simp [results, Try.results10, go_sem, n0, n1, n2, obV]) rfl
          ⟨((HB9.out.setCell (Nat.le_refl _) _).setCell (Nat.le_refl _) _).setCell (Nat.le_refl _) _, ?_⟩
        rw [HE.out]
        refine ⟨_, _, _, rfl, ?_⟩
        have hend := HO9.out (((w9.setCell ⟨w.heap.size, 0, none⟩ (.slice (some ⟨k1, 0, none⟩) a3.1.length a3.1.length)).setCell ⟨w.heap.size, 1, none⟩ (.slice (some ⟨k2, 0, none⟩) xs5.length xs5.length)).setCell ⟨w.heap.size, 2, none⟩ (.slice (some ⟨k3, 0, none⟩) rs7.length rs7.length)) ⟨by simp, fun b h1 _ => by
          rw [Below.heap_setCell _ _ _ _ (by show b ≠ w.heap.size; omega), Below.heap_setCell _ _ _ _ (by show b ≠ w.heap.size; omega), Below.heap_setCell _ _ _ _ (by show b ≠ w.heap.size; omega)]⟩
        rw [← HF.out.1, ← HF.out.2]
        exact hend
      · have her2 : (er != 0) = true := bne_iff_ne.2 her
        rw [if_neg her] at HE
        have g0 : w8.frozen? ⟨w.heap.size, 0, none⟩ = false := by unfold World.frozen?; simp only [hn8]; rfl
        have g1 : w8.frozen? ⟨w.heap.size, 1, none⟩ = false := by unfold World.frozen?; simp only [hn8]; rfl
        have g2 : w8.frozen? ⟨w.heap.size, 2, none⟩ = false := by unfold World.frozen?; simp only [hn8]; rfl
        clear HOWN hb8 hn8 hm8 HPK7 HX5 HX7 HW7 HWT her
        go_wp2
        exact bodyPost_ret (v := .tuple #[obZ, .int .i64 er]) (by simp [results, Try.results10, go_sem, n0, n1, n2, obZ, obV]) rfl
          ⟨((HB8.out.setCell (Nat.le_refl _) _).setCell (Nat.le_refl _) _).setCell (Nat.le_refl _) _, by rw [HE.out]⟩

theorem parse_any (l : List UInt8) (v : Value) (w : World) (hv : RB w w.heap.size v l) (hl : l.length ≤ 140737488355328) :
    Calls Try.prog 10 #[v] w fun e w' => ParseEnd w l e w' := by
  by_cases hm : (dT 3 l false).1 = [79, 66, 74]
  · exact parse_rest l v w hv hl hm
  · exact parse_mark l v w hv hl hm

end Go.Proofs.Ytobdcnpifbnjaac
